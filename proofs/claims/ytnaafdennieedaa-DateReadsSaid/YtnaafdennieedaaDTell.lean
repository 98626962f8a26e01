/- Layer 5: Print by its contract. -/
import Derived.Test.YtnaafdennieedaaDPrint
namespace Go.Proofs.Ytnaafdennieedaa
open Go.RowKit

/-- A time as it is told. -/
def dtext (y mo d h mi s : Nat) : List UInt8 := digL y 4 ++ [45] ++ digL mo 2 ++ [45] ++ digL d 2 ++ [84] ++ digL h 2 ++ [58] ++ digL mi 2 ++ [58] ++ digL s 2 ++ [90]
theorem print_no (t : Int) (w : World) (h : t < 0 ∨ 253402300800 ≤ t) : Calls Try.prog 15 #[.int .i64 t] w fun e w' => e = .returned (.tuple #[str [], .int .i64 1]) ∧ w' = w := by
  by_cases h0 : t < 0
  · clear h
    go_enter Try.func15, Try.ntmps15
    go_wp2_with fail
    go_ret2
    exact ⟨rfl, rfl⟩
  · have h1 : 253402300800 ≤ t := by omega
    clear h
    go_enter Try.func15, Try.ntmps15
    go_wp2_with (go_at_call 37; refine (dby_last _).mono ?_; rintro e w' ⟨rfl, rfl⟩)
    go_ret2
    exact ⟨rfl, rfl⟩
/-- What Print tells. -/
def PrintPost (t : Int) (B : Nat) (w : World) (e : Ending) (w' : World) : Prop := ∃ y mo d h mi s : Nat, e = .returned (.tuple #[str (dtext y mo d h mi s), .int .i64 0]) ∧
  mkB y mo d h mi s = true ∧ mkV y mo d h mi s = t ∧ s ≤ 59 ∧ Below B w w'
theorem ad_to (k : Nat) (v : Value) (l : List UInt8) (n : Nat) (z x : Int) (w : World) (base : Nat) (hown : Own 5 w base v l) (hbase : base ≤ w.heap.size) (hl : l.length ≤ 100) (hk : k ≤ 4) (hz : z = (n : Int)) (hx : x = (k : Int) + 1) (hn : n ≤ 9999) :
    Calls Try.prog 39 #[v, .int .i64 z, .int .i64 x] w (ADPost base w (l ++ digL n (k + 1))) := by
  subst hz
  exact ad_any k v l n x w base hown hbase hl hk hx hn
theorem dby_guess (D : Int) (h0 : 0 ≤ D) (h1 : D ≤ 2932896) : dbyI (1970 + D / 366) ≤ D ∧ 1970 + D / 366 ≤ 9999 ∧ 1970 ≤ 1970 + D / 366 := by
  have h2 : 0 ≤ D / 366 := by omega
  have h3 : D / 366 ≤ 8013 := by omega
  refine ⟨?_, by omega, by omega⟩
  have h4 : 366 * (D / 366) ≤ D := by omega
  obtain ⟨q, hq⟩ : ∃ q, q = D / 366 := ⟨_, rfl⟩
  rw [← hq] at h2 h3 h4 ⊢
  unfold dbyI lpI; omega
def YRel (D : Int) (y : Value) : Prop := ∃ Y : Int, 1970 ≤ Y ∧ Y ≤ 9999 ∧ dbyI Y ≤ D ∧ y = .int .i64 Y
set_option maxHeartbeats 6400000 in
set_option maxRecDepth 100000 in
theorem print_yes (t : Int) (w : World) (h0 : 0 ≤ t) (h1 : t < 253402300800) : Calls Try.prog 15 #[.int .i64 t] w (PrintPost t w.heap.size w) := by
  have n1 : ¬ t < 0 := by omega
  have n2 : ¬ 253402300800 ≤ t := by omega
  have d0 : 0 ≤ t / 86400 := by omega
  have d1 : t / 86400 ≤ 2932896 := by omega
  obtain ⟨g1, g2, g3⟩ := dby_guess (t / 86400) d0 d1
  go_enter Try.func15, Try.ntmps15
  go_wp2_with (go_at_call 37; refine (dby_last _).mono ?_; rintro e w' ⟨rfl, rfl⟩)
  go_loop [4] (fun y => YRel (t / 86400) y) (fun y => (9999 - intOf y).toNat)
  case atStart => exact ⟨_, g3, g2, g1, rfl⟩
  case round =>
    obtain ⟨Y, y1, y2, y3, rfl⟩ := hrel
    clear g1 g2 g3
    obtain ⟨b1, b2⟩ := dby_bd (Y + 1) (by omega) (by omega)
    have hmx : Y = 9999 → dbyI (Y + 1) = 2932897 := by intro e; subst e; rfl
    by_cases hc : dbyI (Y + 1) ≤ t / 86400
    · have y9 : Y ≠ 9999 := fun e => by have := hmx e; omega
      clear hmx
      go_wp2_with (go_at_call 37; refine (dby_any _ _ (by omega) (by omega)).mono ?_; rintro e w' ⟨rfl, rfl⟩)
      go_round
      case rel => exact ⟨Y + 1, by omega, by omega, hc, rfl⟩
      case measure => simp [intOf]; omega
    · clear hmx
      have hsc := dby_succ Y y1
      have c12 := cum12 Y
      have HC := Lib.hid (show cumI Y 12 = dbyI (Y + 1) - dbyI Y by omega)
      clear hsc c12
      obtain ⟨b3, b4⟩ := dby_bd Y (by omega) (by omega)
      go_wp2_with (go_at_call 37; refine (dby_any _ _ (by omega) (by omega)).mono ?_; rintro e w' ⟨rfl, rfl⟩)
      go_loop [5, 6] (fun d m => ∃ (k : Nat) (x : Int), k ≤ 11 ∧ m = .int .i64 ((k : Int) + 1) ∧ d = .int .i64 x ∧ 0 ≤ x ∧ x ≤ 366 ∧ Hid (x = t / 86400 - dbyI Y - cumI Y k)) (fun _ m => (13 - intOf m).toNat)
      case atStart => exact ⟨0, _, by omega, rfl, rfl, by omega, by have := cum_bd Y (by omega) 12; have := HC.out; have := (dby_succ Y y1).2.1; omega, Lib.hid (by simp [cumI])⟩
      case round =>
        obtain ⟨k, x, hk, rfl, rfl, x1, x2, HX⟩ := hrel
        obtain ⟨c3, c4⟩ := dof_bd Y ((k : Int) + 1) (by omega)
        by_cases hx : dofI Y ((k : Int) + 1) ≤ x
        · have hk11 : k ≠ 11 := by
            intro e
            subst e
            have e1 := HC.out
            have e2 := HX.out
            have e3 : cumI Y 12 = cumI Y 11 + dofI Y (((11 : Nat) : Int) + 1) := rfl
            omega
          go_wp2_with (go_at_call 38; refine (dof_any _ _ _ (by omega) (by omega)).mono ?_; rintro e w' ⟨rfl, rfl⟩)
          go_round
          case rel => exact ⟨k + 1, _, by omega, by go_num, rfl, by omega, by omega, Lib.hid (by rw [cumI_succ]; have := HX.out; omega)⟩
          case measure => simp [intOf]; omega
        · obtain ⟨y, rfl⟩ : ∃ n : Nat, Y = (n : Int) := ⟨Y.toNat, by omega⟩
          obtain ⟨d, rfl⟩ : ∃ n : Nat, x = (n : Int) := ⟨x.toNat, by omega⟩
          obtain ⟨h, hh⟩ : ∃ n : Nat, t % 86400 / 3600 = (n : Int) := ⟨(t % 86400 / 3600).toNat, by omega⟩
          obtain ⟨mi, hmi⟩ : ∃ n : Nat, t % 3600 / 60 = (n : Int) := ⟨(t % 3600 / 60).toNat, by omega⟩
          obtain ⟨s, hs⟩ : ∃ n : Nat, t % 60 = (n : Int) := ⟨(t % 60).toNat, by omega⟩
          have hh24 : h ≤ 23 := by omega
          have hmi59 : mi ≤ 59 := by omega
          have hs59 : s ≤ 59 := by omega
          have HV : Hid (mkB y ((k + 1 : Nat) : Int) ((d + 1 : Nat) : Int) h mi s = true ∧ mkV y ((k + 1 : Nat) : Int) ((d + 1 : Nat) : Int) h mi s = t) := by
            refine Lib.hid ⟨(mkB_iff _ _ _ _ _ _).2 ⟨y1, y2, by omega, by omega, by omega, ?_, by omega, by omega, by omega, by omega, by omega, by omega⟩, ?_⟩
            · rw [show ((k + 1 : Nat) : Int) = (k : Int) + 1 by omega]; omega
            · have e1 := HX.out
              unfold mkV dbI
              rw [show (((k + 1 : Nat) : Int) - 1).toNat = k by omega]
              omega
          have p0 : (0 : Int) ≤ (d : Int) := by omega
          have p1 : (d : Int) ≤ 366 := x2
          clear y3 x1 x2
          go_wp2_with (go_at_call 38; refine (dof_any _ _ _ (by omega) (by omega)).mono ?_; rintro e w' ⟨rfl, rfl⟩)
          refine (ad_to 3 (.slice none 0 0) ([]) y _ _ _ _ (Own.nil _ _ _) (Nat.le_refl _) (by simp) (by omega) (by omega) (by omega) (by omega)).mono ?_
          rintro e w0 ⟨v0, rfl, hown0, hb0, hs0⟩
          obtain ⟨hB, hbase⟩ : Below _ _ w0 ∧ _ ≤ w0.heap.size := ⟨hb0, hs0⟩
          clear hb0 hs0
          rw [List.nil_append] at hown0
          go_wp2_with (at_builtin; refine hold ?_)
          intro _
          refine bt.append1 rfl _ _ rfl _ v0 (digL y 4) 45 _ rfl hown0 rfl rfl (by simp [digL_length]) hbase ?_
          intro v1 w1 hown1 hg1
          obtain ⟨hB, hbase⟩ : Below _ _ w1 ∧ _ ≤ w1.heap.size := ⟨hB.trans (hown0.grows hg1 (Nat.le_refl _) hbase), Nat.le_trans hbase hg1.size⟩
          clear hg1
          go_wp2_with fail
          refine (ad_to 1 v1 (digL y 4 ++ [45]) (k + 1) _ _ _ _ hown1 hbase (by simp [digL_length]) (by omega) (by omega) (by omega) (by omega)).mono ?_
          rintro e w2 ⟨v2, rfl, hown2, hb2, hs2⟩
          obtain ⟨hB, hbase⟩ : Below _ _ w2 ∧ _ ≤ w2.heap.size := ⟨hB.trans hb2, Nat.le_trans hbase hs2⟩
          clear hb2 hs2
          go_wp2_with (at_builtin; refine hold ?_)
          intro _
          refine bt.append1 rfl _ _ rfl _ v2 (digL y 4 ++ [45] ++ digL (k + 1) 2) 45 _ rfl hown2 rfl rfl (by simp [digL_length]) hbase ?_
          intro v3 w3 hown3 hg3
          obtain ⟨hB, hbase⟩ : Below _ _ w3 ∧ _ ≤ w3.heap.size := ⟨hB.trans (hown2.grows hg3 (Nat.le_refl _) hbase), Nat.le_trans hbase hg3.size⟩
          clear hg3
          go_wp2_with fail
          refine (ad_to 1 v3 (digL y 4 ++ [45] ++ digL (k + 1) 2 ++ [45]) (d + 1) _ _ _ _ hown3 hbase (by simp [digL_length]) (by omega) (by omega) (by omega) (by omega)).mono ?_
          rintro e w4 ⟨v4, rfl, hown4, hb4, hs4⟩
          obtain ⟨hB, hbase⟩ : Below _ _ w4 ∧ _ ≤ w4.heap.size := ⟨hB.trans hb4, Nat.le_trans hbase hs4⟩
          clear hb4 hs4
          go_wp2_with (at_builtin; refine hold ?_)
          intro _
          refine bt.append1 rfl _ _ rfl _ v4 (digL y 4 ++ [45] ++ digL (k + 1) 2 ++ [45] ++ digL (d + 1) 2) 84 _ rfl hown4 rfl rfl (by simp [digL_length]) hbase ?_
          intro v5 w5 hown5 hg5
          obtain ⟨hB, hbase⟩ : Below _ _ w5 ∧ _ ≤ w5.heap.size := ⟨hB.trans (hown4.grows hg5 (Nat.le_refl _) hbase), Nat.le_trans hbase hg5.size⟩
          clear hg5
          go_wp2_with fail
          refine (ad_to 1 v5 (digL y 4 ++ [45] ++ digL (k + 1) 2 ++ [45] ++ digL (d + 1) 2 ++ [84]) h _ _ _ _ hown5 hbase (by simp [digL_length]) (by omega) (by omega) (by omega) (by omega)).mono ?_
          rintro e w6 ⟨v6, rfl, hown6, hb6, hs6⟩
          obtain ⟨hB, hbase⟩ : Below _ _ w6 ∧ _ ≤ w6.heap.size := ⟨hB.trans hb6, Nat.le_trans hbase hs6⟩
          clear hb6 hs6
          go_wp2_with (at_builtin; refine hold ?_)
          intro _
          refine bt.append1 rfl _ _ rfl _ v6 (digL y 4 ++ [45] ++ digL (k + 1) 2 ++ [45] ++ digL (d + 1) 2 ++ [84] ++ digL h 2) 58 _ rfl hown6 rfl rfl (by simp [digL_length]) hbase ?_
          intro v7 w7 hown7 hg7
          obtain ⟨hB, hbase⟩ : Below _ _ w7 ∧ _ ≤ w7.heap.size := ⟨hB.trans (hown6.grows hg7 (Nat.le_refl _) hbase), Nat.le_trans hbase hg7.size⟩
          clear hg7
          go_wp2_with fail
          refine (ad_to 1 v7 (digL y 4 ++ [45] ++ digL (k + 1) 2 ++ [45] ++ digL (d + 1) 2 ++ [84] ++ digL h 2 ++ [58]) mi _ _ _ _ hown7 hbase (by simp [digL_length]) (by omega) (by omega) (by omega) (by omega)).mono ?_
          rintro e w8 ⟨v8, rfl, hown8, hb8, hs8⟩
          obtain ⟨hB, hbase⟩ : Below _ _ w8 ∧ _ ≤ w8.heap.size := ⟨hB.trans hb8, Nat.le_trans hbase hs8⟩
          clear hb8 hs8
          go_wp2_with (at_builtin; refine hold ?_)
          intro _
          refine bt.append1 rfl _ _ rfl _ v8 (digL y 4 ++ [45] ++ digL (k + 1) 2 ++ [45] ++ digL (d + 1) 2 ++ [84] ++ digL h 2 ++ [58] ++ digL mi 2) 58 _ rfl hown8 rfl rfl (by simp [digL_length]) hbase ?_
          intro v9 w9 hown9 hg9
          obtain ⟨hB, hbase⟩ : Below _ _ w9 ∧ _ ≤ w9.heap.size := ⟨hB.trans (hown8.grows hg9 (Nat.le_refl _) hbase), Nat.le_trans hbase hg9.size⟩
          clear hg9
          go_wp2_with fail
          refine (ad_to 1 v9 (digL y 4 ++ [45] ++ digL (k + 1) 2 ++ [45] ++ digL (d + 1) 2 ++ [84] ++ digL h 2 ++ [58] ++ digL mi 2 ++ [58]) s _ _ _ _ hown9 hbase (by simp [digL_length]) (by omega) (by omega) (by omega) (by omega)).mono ?_
          rintro e w10 ⟨v10, rfl, hown10, hb10, hs10⟩
          obtain ⟨hB, hbase⟩ : Below _ _ w10 ∧ _ ≤ w10.heap.size := ⟨hB.trans hb10, Nat.le_trans hbase hs10⟩
          clear hb10 hs10
          go_wp2_with (at_builtin; refine hold ?_)
          intro _
          refine bt.append1 rfl _ _ rfl _ v10 (digL y 4 ++ [45] ++ digL (k + 1) 2 ++ [45] ++ digL (d + 1) 2 ++ [84] ++ digL h 2 ++ [58] ++ digL mi 2 ++ [58] ++ digL s 2) 90 _ rfl hown10 rfl rfl (by simp [digL_length]) hbase ?_
          intro v11 w11 hown11 hg11
          obtain ⟨hB, hbase⟩ : Below _ _ w11 ∧ _ ≤ w11.heap.size := ⟨hB.trans (hown10.grows hg11 (Nat.le_refl _) hbase), Nat.le_trans hbase hg11.size⟩
          clear hg11
          have hconv := bt.toString (S := 9) Try.underlying9 hown11.rd
          have HB := Lib.hid hB
          clear hB hbase
          go_wp2_with fail
          go_ret2
          exact ⟨y, k + 1, d + 1, h, mi, s, rfl, HV.out.1, HV.out.2, hs59, HB.out⟩
end Go.Proofs.Ytnaafdennieedaa
