/- strings.Split at '/', by its contract. -/
import Derived.Test.YtonkfekjhbfelaaDoorKStr
import Derived.Test.YtonkfekjhbfelaaDoorKSlash
import Derived.Test.YtonkfekjhbfelaaDoorRdV
namespace Go.Proofs.YtonkfekjhbfelaaDoor
open Go.RowKit

/-- A text cut at every '/'. -/
def splitL : List UInt8 → List (List UInt8)
  | [] => [[]]
  | c :: t => if c = 47 then [] :: splitL t else match splitL t with
    | [] => [[c]]
    | p :: ps => (c :: p) :: ps
theorem splitL_one : ∀ l : List UInt8, l.count 47 = 0 → splitL l = [l]
  | [], _ => rfl
  | c :: t, h => by
    have hc : c ≠ 47 := by rintro rfl; simp at h
    rw [List.count_cons_of_ne (by simpa using hc)] at h
    rw [splitL, if_neg hc, splitL_one t h]
theorem splitL_more : ∀ l : List UInt8, 0 < l.count 47 → ∃ m : Nat, Lib.indexByte l 47 = (m : Int) ∧ m < l.length ∧ splitL l = l.take m :: splitL (l.drop (m + 1)) ∧ (l.drop (m + 1)).count 47 + 1 = l.count 47
  | [], h => by simp at h
  | c :: t, h => by
    by_cases hc : c = 47
    · subst hc
      exact ⟨0, by simp [Lib.indexByte], by simp, by simp [splitL], by simp⟩
    · rw [List.count_cons_of_ne (by simpa using hc)] at h
      obtain ⟨m, h1, h2, h3, h4⟩ := splitL_more t h
      refine ⟨m + 1, ?_, by simpa using h2, ?_, ?_⟩
      · have e1 : (c == (47 : UInt8)) = false := by simpa using hc
        have e2 : (Lib.indexByte t 47 == -1) = false := by rw [h1, beq_eq_false_iff_ne]; omega
        rw [Lib.indexByte, e1, e2, h1]
        simp
      · rw [splitL, if_neg hc, h3]
        simp
      · rw [List.count_cons_of_ne (by simpa using hc)]
        simpa using h4
theorem splitL_count : ∀ l : List UInt8, (splitL l).length = l.count 47 + 1
  | [] => rfl
  | c :: t => by
    have ih := splitL_count t
    by_cases hc : c = 47
    · subst hc; simp [splitL, ih]
    · rw [List.count_cons_of_ne (by simpa using hc), splitL, if_neg hc]
      cases hs : splitL t with
      | nil => rw [hs] at ih; simp at ih
      | cons p ps => rw [hs] at ih; simpa using ih
theorem infoStr : (Tryd.prog.info? 9).map (fun i => (i.zero, i.size, i.bytes)) = some (some (str []), 1, 16) := by kernel_rfl
theorem row_cell {w : World} {base g n cap : Nat} {E : TypeId} {xs : List Value} (h : w.ownsRow base E 1 (.slice (some ⟨g, 0, none⟩) n cap) n xs) (hx : xs.length = n) :
    (∀ j (hj : j < xs.length), w.cell? ⟨g, j, none⟩ = some xs[j]) ∧ (∀ j, w.frozen? ⟨g, j, none⟩ = false) := by
  rcases h.2 with ⟨hn, _⟩ | ⟨g', cap', cur, hv, _, hg, h1, h2, h3, h4⟩
  · cases hn
  · simp only [Value.slice.injEq, Option.some.injEq, Addr.mk.injEq] at hv
    obtain ⟨⟨rfl, _, _⟩, _, rfl⟩ := hv
    refine ⟨fun j hj => ?_, fun j => frozen_of_row w g j cur E hg⟩
    rw [cell_of_row w g j cur E (0, 0) hg]
    have e2 := congrArg (fun z => z[j]?) h4
    simp only [List.getElem?_take] at e2
    rw [if_pos (by omega), List.getElem?_eq_getElem hj] at e2
    simpa using e2
/-- What lies on in genSplit. -/
structure SPI (W wr : World) (l r : List UInt8) (P : List (List UInt8)) (k C : Nat) : Prop where
  cnt : r.count 47 + k = C
  eq : splitL l = P ++ splitL r
  len : P.length = k
  row : wr.ownsRow W.heap.size 9 1 (.slice (some ⟨W.heap.size, 0, none⟩) (C + 1) (C + 1)) (C + 1) (P.map str ++ List.replicate (C + 1 - k) (str []))
  b : Below W.heap.size W wr
  rl : r.length ≤ l.length
theorem set_row (P : List (List UInt8)) (k C : Nat) (hk : k ≤ C) (hl : P.length = k) (p : List UInt8) : (P.map str ++ List.replicate (C + 1 - k) (str [])).set k (str p) = (P ++ [p]).map str ++ List.replicate (C + 1 - (k + 1)) (str []) := by
  rw [List.set_append_right _ _ (by simp [hl]), show C + 1 - k = (C - k) + 1 by omega, show C + 1 - (k + 1) = C - k by omega, List.replicate_succ]
  simp [hl]
set_option maxHeartbeats 2000000 in
theorem gensplit_any (l : List UInt8) (w : World) (hl : l.length ≤ 100000) :
    Calls Tryd.prog 39 #[str l, str [47], .int .i64 0, .int .i64 (-1)] w fun e w' => ∃ v, e = .returned v ∧ w'.ownsRow w.heap.size 9 1 v (splitL l).length ((splitL l).map str) ∧ Below w.heap.size w w' := by
  obtain ⟨i0, hi, hz0, hz1, hz2⟩ := info_parts infoStr
  have CC := Lib.hid (Tryd.strings_Count_one ⟨l.toArray⟩ 47 w)
  obtain ⟨C, hC⟩ : ∃ C, C = l.count 47 := ⟨_, rfl⟩
  have eC : Lib.countByte (ByteArray.mk l.toArray).data.toList 47 = C := by rw [hC]; rfl
  rw [eC] at CC
  have hCl : C ≤ l.length := by rw [hC]; exact List.count_le_length
  have HSL := Lib.hid (And.intro hC (splitL_count l))
  have g1 : ¬ ((l.length : Int) + 1 < (C : Int) + 1) := by omega
  have g2 : (C : Int) + 1 ≤ (l.length : Int) + 1 := by omega
  clear eC hC
  go_enter Tryd.func39, Tryd.ntmps39
  go_wp2_with fail
  refine CC.out.mono ?_
  rintro e w1 ⟨rfl, rfl⟩
  have hmin : min (C : Int) (l.length : Int) = (C : Int) := by omega
  go_wp2_with (at_make; refine hold ?_)
  intro _
  refine wpList_make_full w1 rfl _ _ 40 rfl w1.heap.size 9 i0 (str []) 1 Tryd.underlying40 hi hz0 hz1 .i64 .i64 _ _ (C + 1) rfl rfl (by first | rfl | omega) (by first | rfl | omega) (by rw [hz2]; omega) (by unfold maxLen; omega) (Nat.le_refl _) fun w2 k1 k2 => ?_
  have e0 : (madeCells (str []).cells ((C + 1) * 1)).toList = (([] : List (List UInt8)).map str ++ List.replicate (C + 1 - 0) (str [])) := by
    apply List.ext_getElem?
    intro j
    simp only [madeCells, Nat.mul_one, List.map_nil, List.nil_append, Nat.sub_zero]
    by_cases hj : j < C + 1
    · simp [hj, Value.cells, Nat.mod_one]
    · simp [hj]
  rw [e0] at k1
  have HS : Hid (SPI w1 w2 l l [] 0 C) := Lib.hid ⟨by rw [HSL.out.1]; simp, by simp, rfl, by simpa using k1, (Below.refl _ w1).grown k2 (Nat.le_refl _) (by simp), Nat.le_refl _⟩
  clear k1 k2 e0 CC
  go_wp2_with fail
  go_loopw [0, 10, 11] (fun sv iv mv wr => ∃ (r : List UInt8) (P : List (List UInt8)) (k : Nat), sv = str r ∧ iv = .int .i64 (k : Int) ∧ Hid (SPI w1 wr l r P k C)) (fun _ iv _ _ => C - (intOf iv).toNat)
  case atStart => exact ⟨l, [], 0, rfl, rfl, HS⟩
  case round =>
    clear HS
    obtain ⟨w3, hw3⟩ : ∃ w, w = wr := ⟨_, rfl⟩
    subst hw3
    obtain ⟨r, P, k, rfl, rfl, HR⟩ := hrel
    have hkC : k ≤ C := by have := HR.out.cnt; omega
    have hrl := HR.out.rl
    have g3 : (0 : Int) ≤ (k : Int) := by omega
    have g3' : (k : Int) < (C : Int) + 1 := by omega
    have CI := Lib.hid (Tryd.strings_Index_one ⟨r.toArray⟩ 47 w3)
    have hrw := row_cell HR.out.row (by simp [HR.out.len]; omega)
    have f1 := hrw.2 k
    obtain ⟨x, hx⟩ : ∃ x, w3.cell? ⟨w1.heap.size, k, none⟩ = some x := ⟨_, hrw.1 k (by simp [HR.out.len]; omega)⟩
    clear hrw
    have HNX := Lib.hid (fun (p : List UInt8) => (HR.out.row.stored k (str p)))
    by_cases hlt : k < C
    · have g4 : (k : Int) < (C : Int) := by omega
      obtain ⟨m, hm1, hm2, hm3, hm4⟩ := splitL_more r (by have := HR.out.cnt; omega)
      have eI : Lib.indexByte (ByteArray.mk r.toArray).data.toList 47 = (m : Int) := hm1
      rw [eI] at CI
      go_wp2_with fail
      refine CI.out.mono ?_
      rintro e w4 ⟨rfl, rfl⟩
      have HM := Lib.hid (And.intro hm3 hm4)
      clear hm1 hm3 hm4 eI CI
      have e1 := str_cut r (m + 1) r.length
      have e2 := str_cut r 0 m
      have e3 : (r.drop (m + 1)).take (r.length - (m + 1)) = r.drop (m + 1) := List.take_of_length_le (by simp)
      rw [e3] at e1
      have e4 : (r.drop 0).take (m - 0) = r.take m := by simp
      rw [e4] at e2
      go_wp2_with fail
      go_roundw
      case rel =>
        refine ⟨r.drop (m + 1), P ++ [r.take m], k + 1, rfl, by go_num, Lib.hid ?_⟩
        have h1 := HNX.out (r.take m)
        rw [set_row P k C hkC HR.out.len] at h1
        exact ⟨by have := HR.out.cnt; have := HM.out.2; omega, by rw [HR.out.eq, HM.out.1]; simp, by simp [HR.out.len], h1.1, HR.out.b.grown h1.2 HR.out.b.size (fun b e => by cases e; exact Nat.le_refl _), by simp; omega⟩
      case measure => simp [intOf]; omega
    · obtain rfl : k = C := by omega
      have g4 : ¬ (k : Int) < (k : Int) := by omega
      have HFIN : Hid ((w3.setCell ⟨w1.heap.size, k, none⟩ (str r)).ownsRow w1.heap.size 9 1 (.slice (some ⟨w1.heap.size, 0, none⟩) (k + 1) (k + 1)) (splitL l).length ((splitL l).map str) ∧ Below w1.heap.size w1 (w3.setCell ⟨w1.heap.size, k, none⟩ (str r))) := by
        have h1 := HNX.out r
        rw [set_row P k k (Nat.le_refl _) HR.out.len] at h1
        have e1 := splitL_one r (by have := HR.out.cnt; omega)
        have e2 : (splitL l).length = k + 1 := by rw [HSL.out.2, ← HSL.out.1]
        have e3 : splitL l = P ++ [r] := by rw [HR.out.eq, e1]
        refine Lib.hid ⟨?_, HR.out.b.grown h1.2 HR.out.b.size (fun b e => by cases e; exact Nat.le_refl _)⟩
        rw [e2, e3]
        simpa using h1.1
      clear CI HNX HR HSL
      go_wp2_with fail
      go_ret
      exact ⟨_, rfl, HFIN.out.1, HFIN.out.2⟩
theorem split_any (l : List UInt8) (w : World) (hl : l.length ≤ 100000) :
    Calls Tryd.prog 24 #[str l, str [47]] w fun e w' => ∃ v, e = .returned v ∧ w'.ownsRow w.heap.size 9 1 v (splitL l).length ((splitL l).map str) ∧ Below w.heap.size w w' := by
  have C := Lib.hid (gensplit_any l w hl)
  go_enter Tryd.func24, Tryd.ntmps24
  go_wp2_with fail
  refine C.out.mono ?_
  rintro e w1 ⟨v, rfl, hv, hb⟩
  obtain ⟨va, vc, rfl, _⟩ := RdV.of_row (by simpa using hv : w1.ownsRow w.heap.size 9 1 v ((splitL l).map str).length ((splitL l).map str))
  rw [List.length_map] at hv ⊢
  have H := Lib.hid (And.intro hv hb)
  clear hv hb C
  go_wp2_with fail
  go_ret
  exact ⟨_, rfl, H.out.1, H.out.2⟩
end Go.Proofs.YtonkfekjhbfelaaDoor
