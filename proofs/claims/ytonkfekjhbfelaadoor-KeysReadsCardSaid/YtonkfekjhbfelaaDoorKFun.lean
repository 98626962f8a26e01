/- Package keys: what puts keys together, by their contracts. -/
import Derived.Test.YtonkfekjhbfelaaDoorKStr
import Derived.Test.YtonkfekjhbfelaaDoorKeys
import Derived.Test.YtonkfekjhbfelaaDoorDig
import Derived.Test.YtonkfekjhbfelaaDoorHex
import Derived.Laws.IdiomStrings
namespace Go.Proofs.YtonkfekjhbfelaaDoor
open Go.RowKit

/-- '[]byte(s)'. -/
theorem bytes_run (l : List UInt8) (W : World) (hl : l.length ≤ 1000000) : ∃ cap w', (convert 9 48 (str l)).run Tryd.prog W = .ok (.slice (some ⟨W.heap.size, 0, none⟩) l.length cap) w' ∧ Rd w' (.slice (some ⟨W.heap.size, 0, none⟩) l.length cap) l ∧ Below W.heap.size W w' := by
  have := run_bytes_of_string (P := Tryd.prog) W 9 48 5 ⟨l.toArray⟩ Tryd.underlying9 Tryd.underlying48 Tryd.underlying5
  have hs : (ByteArray.mk l.toArray).size = l.length := by simp [ByteArray.size]
  rw [hs] at this
  refine ⟨_, _, this, ?_, ?_⟩
  · refine ⟨_, _, rfl, grownCap_ge _ _ _ _, grownCap_le_maxLen _ _ _ _ (by simp only [maxLen]; omega), (fun e => by cases e), fun _ => ⟨W.heap.size, 0, rfl, fun i hi => ?_⟩⟩
    rw [Nat.zero_add, cell_of_row _ W.heap.size i _ 5 _ (heap_alloc_new W.drew _)]
    unfold bytesRow
    rw [Array.getElem?_append_left (by simpa using hi)]
    simp [bv, hi]
  · exact Below.alloc (Below.drewsN (Below.refl _ _) 1) (Nat.le_refl _) _
def underL (a b : List UInt8) : List UInt8 := if a = [] ∨ nameB b = false then [] else a ++ b
def withinL (a b : List UInt8) : List UInt8 := if underL a b = [] then [] else underL a b ++ [47]
def numbL (a : List UInt8) (i : Int) : List UInt8 := if a = [] ∨ i < 0 ∨ 999999 < i then [] else a ++ digL i.toNat 6
def guidL (f g : List UInt8) : List UInt8 := if nameB f = false ∨ g = [] ∨ 500 < g.length then [] else 103 :: 47 :: (f ++ 47 :: hexL g)
theorem underL_len (a b : List UInt8) : (underL a b).length ≤ a.length + 20 := by
  unfold underL
  split
  · simp
  · next h =>
    have : nameB b = true := by rcases hb : nameB b with _ | _ <;> simp_all
    have := (nameB_len this).2
    simp; omega
theorem withinL_len (a b : List UInt8) : (withinL a b).length ≤ a.length + 21 := by
  have := underL_len a b
  unfold withinL
  split
  · simp
  · simp; omega
theorem under_any (a b : List UInt8) (w : World) (ha : a.length ≤ 100000) (hb : b.length ≤ 9223372036854775807) :
    Calls Tryd.prog 36 #[str a, str b] w fun e w' => e = .returned (str (underL a b)) ∧ w' = w := by
  by_cases h0 : a = []
  · subst h0
    have HE := Lib.hid (show underL [] b = [] by unfold underL; rw [if_pos (.inl rfl)])
    go_enter Tryd.func36, Tryd.ntmps36
    go_wp2
    go_ret
    exact ⟨by rw [HE.out]; rfl, rfl⟩
  · have t0 : (a == ([] : List UInt8)) = false := by rw [beq_eq_false_iff_ne]; exact h0
    have C := Lib.hid (name_any b w hb)
    cases hn : nameB b with
    | false =>
      have HE := Lib.hid (show underL a b = [] by unfold underL; rw [if_pos (.inr hn)])
      rw [hn] at C
      clear h0 hn
      go_enter Tryd.func36, Tryd.ntmps36
      go_wp2_with fail
      refine C.out.mono ?_
      rintro e w' ⟨rfl, rfl⟩
      go_wp2_with fail
      go_ret
      exact ⟨by rw [HE.out]; rfl, rfl⟩
    | true =>
      have HE := Lib.hid (show underL a b = a ++ b by unfold underL; rw [if_neg (by simp [h0, hn])])
      rw [hn] at C
      have hl := (nameB_len hn).2
      have c1 := str_cat a b
      have c2 : ¬ (9223372036854775807 < a.length + b.length) := by omega
      clear h0 hn
      go_enter Tryd.func36, Tryd.ntmps36
      go_wp2_with fail
      refine C.out.mono ?_
      rintro e w' ⟨rfl, rfl⟩
      go_wp2_with fail
      go_ret
      exact ⟨by rw [HE.out]; rfl, rfl⟩
theorem within_any (a b : List UInt8) (w : World) (ha : a.length ≤ 50000) (hb : b.length ≤ 9223372036854775807) :
    Calls Tryd.prog 34 #[str a, str b] w fun e w' => e = .returned (str (withinL a b)) ∧ w' = w := by
  have C := Lib.hid (under_any a b w (by omega) hb)
  have hl := underL_len a b
  obtain ⟨u, hu⟩ : ∃ u, u = underL a b := ⟨_, rfl⟩
  rw [← hu] at C hl
  by_cases h0 : u = []
  · have HE := Lib.hid (show withinL a b = [] by unfold withinL; rw [← hu, if_pos h0])
    rw [h0] at C
    clear h0 hu
    go_enter Tryd.func34, Tryd.ntmps34
    go_wp2_with fail
    refine C.out.mono ?_
    rintro e w' ⟨rfl, rfl⟩
    go_wp2_with fail
    go_ret
    exact ⟨by rw [HE.out]; rfl, rfl⟩
  · have HE := Lib.hid (show withinL a b = u ++ [47] by unfold withinL; rw [← hu, if_neg h0])
    have t0 : (u == ([] : List UInt8)) = false := by rw [beq_eq_false_iff_ne]; exact h0
    have c1 := str_cat u [47]
    have c2 : ¬ (9223372036854775807 < u.length + 1) := by omega
    clear h0 hu
    go_enter Tryd.func34, Tryd.ntmps34
    go_wp2_with fail
    refine C.out.mono ?_
    rintro e w' ⟨rfl, rfl⟩
    go_wp2_with fail
    go_ret
    exact ⟨by rw [HE.out]; rfl, rfl⟩
/-- num.Digits at six places, at any number. -/
theorem dig6_any (i : Int) (w : World) (hi : -9223372036854775808 ≤ i ∧ i ≤ 9223372036854775807) :
    Calls Tryd.prog 42 #[.int .i64 i, .int .i64 6] w fun e w' => e = .returned (.tuple #[str (if i < 0 ∨ 999999 < i then [] else digL i.toNat 6), .bool (!decide (i < 0 ∨ 999999 < i))]) ∧ Below w.heap.size w w' := by
  by_cases h0 : i < 0
  · rw [if_pos (show (i < 0 ∨ 999999 < i) from .inl h0), decide_eq_true (show (i < 0 ∨ 999999 < i) from .inl h0)]
    go_enter Tryd.func42, Tryd.ntmps42
    go_wp2_with fail
    go_ret2
    exact ⟨rfl, Below.refl _ _⟩
  · obtain ⟨n, rfl⟩ : ∃ n : Nat, i = (n : Int) := ⟨i.toNat, by omega⟩
    refine (dig_any n 6 w (by omega) (by omega) (by omega)).mono ?_
    rintro e w' ⟨rfl, hb⟩
    refine ⟨?_, hb⟩
    unfold digE
    have e6 : (10 : Nat) ^ 6 = 1000000 := by decide
    rw [e6]
    by_cases h : n < 1000000
    · rw [if_pos h, if_neg (show ¬ ((n : Int) < 0 ∨ 999999 < (n : Int)) by omega), decide_eq_true h, decide_eq_false (show ¬ ((n : Int) < 0 ∨ 999999 < (n : Int)) by omega)]
      simp
    · rw [if_neg h, if_pos (show ((n : Int) < 0 ∨ 999999 < (n : Int)) by omega), decide_eq_false h, decide_eq_true (show ((n : Int) < 0 ∨ 999999 < (n : Int)) by omega)]
      simp
theorem numbered_any (a : List UInt8) (i : Int) (w : World) (ha : a.length ≤ 100000) (hi : -9223372036854775808 ≤ i ∧ i ≤ 9223372036854775807) :
    Calls Tryd.prog 35 #[str a, .int .i64 i] w fun e w' => e = .returned (str (numbL a i)) ∧ Below w.heap.size w w' := by
  have C := Lib.hid (dig6_any i w hi)
  by_cases h0 : a = []
  · subst h0
    have HE := Lib.hid (show numbL [] i = [] by unfold numbL; rw [if_pos (.inl rfl)])
    obtain ⟨D, hD⟩ : ∃ D, D = (if i < 0 ∨ 999999 < i then [] else digL i.toNat 6) := ⟨_, rfl⟩
    obtain ⟨B, hB⟩ : ∃ B, B = !decide (i < 0 ∨ 999999 < i) := ⟨_, rfl⟩
    rw [← hD, ← hB] at C
    clear hD hB
    go_enter Tryd.func35, Tryd.ntmps35
    go_wp2_with fail
    refine C.out.mono ?_
    rintro e w' ⟨rfl, hb⟩
    have HB := Lib.hid hb
    clear hb
    go_wp2_with fail
    go_ret
    exact ⟨by rw [HE.out]; rfl, HB.out⟩
  · have t0 : (a == ([] : List UInt8)) = false := by rw [beq_eq_false_iff_ne]; exact h0
    by_cases h1 : i < 0 ∨ 999999 < i
    · have HE := Lib.hid (show numbL a i = [] by unfold numbL; rw [if_pos (.inr h1)])
      rw [if_pos h1, decide_eq_true h1] at C
      clear h0 h1
      go_enter Tryd.func35, Tryd.ntmps35
      go_wp2_with fail
      refine C.out.mono ?_
      rintro e w' ⟨rfl, hb⟩
      have HB := Lib.hid hb
      clear hb
      go_wp2_with fail
      go_ret
      exact ⟨by rw [HE.out]; rfl, HB.out⟩
    · have HE := Lib.hid (show numbL a i = a ++ digL i.toNat 6 by unfold numbL; rw [if_neg (by simp only [not_or]; exact ⟨h0, by omega, by omega⟩)])
      rw [if_neg h1, decide_eq_false h1] at C
      obtain ⟨D, hD⟩ : ∃ D, D = digL i.toNat 6 := ⟨_, rfl⟩
      have hDl : D.length = 6 := by rw [hD]; simp [digL]
      rw [← hD] at C HE
      have c1 := str_cat a D
      have c2 : ¬ (9223372036854775807 < a.length + D.length) := by omega
      have c3 : ¬ (9223372036854775807 < a.length + 6) := by omega
      clear h0 h1 hD
      go_enter Tryd.func35, Tryd.ntmps35
      go_wp2_with fail
      refine C.out.mono ?_
      rintro e w' ⟨rfl, hb⟩
      have HB := Lib.hid hb
      clear hb
      go_wp2_with fail
      go_ret
      exact ⟨by rw [HE.out]; rfl, HB.out⟩
theorem numbL_len (a : List UInt8) (i : Int) : (numbL a i).length ≤ a.length + 6 := by
  unfold numbL
  split
  · simp
  · simp [digL]
theorem feed_any (f : List UInt8) (w : World) (hf : f.length ≤ 9223372036854775807) : Calls Tryd.prog 29 #[str f] w fun e w' => e = .returned (str (underL [102, 47] f)) ∧ w' = w := by
  have C := Lib.hid (under_any [102, 47] f w (by simp) hf)
  go_enter Tryd.func29, Tryd.ntmps29
  go_wp2_with fail
  refine C.out.mono ?_
  rintro e w' ⟨rfl, rfl⟩
  go_wp2_with fail
  go_ret
  exact ⟨rfl, rfl⟩
theorem subs_any (f : List UInt8) (w : World) (hf : f.length ≤ 9223372036854775807) : Calls Tryd.prog 14 #[str f] w fun e w' => e = .returned (str (withinL [115, 47] f)) ∧ w' = w := by
  have C := Lib.hid (within_any [115, 47] f w (by simp) hf)
  go_enter Tryd.func14, Tryd.ntmps14
  go_wp2_with fail
  refine C.out.mono ?_
  rintro e w' ⟨rfl, rfl⟩
  go_wp2_with fail
  go_ret
  exact ⟨rfl, rfl⟩
theorem folders_any (f : List UInt8) (w : World) (hf : f.length ≤ 9223372036854775807) : Calls Tryd.prog 16 #[str f] w fun e w' => e = .returned (str (withinL [100, 47] f)) ∧ w' = w := by
  have C := Lib.hid (within_any [100, 47] f w (by simp) hf)
  go_enter Tryd.func16, Tryd.ntmps16
  go_wp2_with fail
  refine C.out.mono ?_
  rintro e w' ⟨rfl, rfl⟩
  go_wp2_with fail
  go_ret
  exact ⟨rfl, rfl⟩
theorem entries_any (f : List UInt8) (w : World) (hf : f.length ≤ 9223372036854775807) : Calls Tryd.prog 17 #[str f] w fun e w' => e = .returned (str (withinL [101, 47] f)) ∧ w' = w := by
  have C := Lib.hid (within_any [101, 47] f w (by simp) hf)
  go_enter Tryd.func17, Tryd.ntmps17
  go_wp2_with fail
  refine C.out.mono ?_
  rintro e w' ⟨rfl, rfl⟩
  go_wp2_with fail
  go_ret
  exact ⟨rfl, rfl⟩
theorem states_any (u f : List UInt8) (w : World) (hu : u.length ≤ 9223372036854775807) (hf : f.length ≤ 9223372036854775807) : Calls Tryd.prog 18 #[str u, str f] w fun e w' => e = .returned (str (withinL (withinL [114, 47] u) f)) ∧ w' = w := by
  have C := Lib.hid (within_any [114, 47] u w (by simp) hu)
  have hl := withinL_len [114, 47] u
  obtain ⟨p, hp⟩ : ∃ p, p = withinL [114, 47] u := ⟨_, rfl⟩
  rw [← hp] at C hl ⊢
  have C2 := Lib.hid (within_any p f w (by simp at hl; omega) hf)
  clear hp
  go_enter Tryd.func18, Tryd.ntmps18
  go_wp2_with fail
  refine C.out.mono ?_
  rintro e w' ⟨rfl, rfl⟩
  go_wp2_with fail
  refine C2.out.mono ?_
  rintro e w' ⟨rfl, rfl⟩
  go_wp2_with fail
  go_ret
  exact ⟨rfl, rfl⟩
theorem entry_any (f : List UInt8) (i : Int) (w : World) (hf : f.length ≤ 9223372036854775807) (hi : -9223372036854775808 ≤ i ∧ i ≤ 9223372036854775807) : Calls Tryd.prog 19 #[str f, .int .i64 i] w fun e w' => e = .returned (str (numbL (withinL [101, 47] f) i)) ∧ Below w.heap.size w w' := by
  have C := Lib.hid (entries_any f w hf)
  have hl := withinL_len [101, 47] f
  obtain ⟨p, hp⟩ : ∃ p, p = withinL [101, 47] f := ⟨_, rfl⟩
  rw [← hp] at C hl ⊢
  have C2 := Lib.hid (numbered_any p i w (by simp at hl; omega) hi)
  clear hp hi
  go_enter Tryd.func19, Tryd.ntmps19
  go_wp2_with fail
  refine C.out.mono ?_
  rintro e w' ⟨rfl, rfl⟩
  go_wp2_with fail
  refine C2.out.mono ?_
  rintro e w' ⟨rfl, hb⟩
  have HB := Lib.hid hb
  clear hb
  go_wp2_with fail
  go_ret
  exact ⟨rfl, HB.out⟩
theorem state_any (u f : List UInt8) (i : Int) (w : World) (hu : u.length ≤ 9223372036854775807) (hf : f.length ≤ 9223372036854775807) (hi : -9223372036854775808 ≤ i ∧ i ≤ 9223372036854775807) : Calls Tryd.prog 21 #[str u, str f, .int .i64 i] w fun e w' => e = .returned (str (numbL (withinL (withinL [114, 47] u) f) i)) ∧ Below w.heap.size w w' := by
  have C := Lib.hid (states_any u f w hu hf)
  have hl := withinL_len (withinL [114, 47] u) f
  have hl2 := withinL_len [114, 47] u
  obtain ⟨p, hp⟩ : ∃ p, p = withinL (withinL [114, 47] u) f := ⟨_, rfl⟩
  rw [← hp] at C hl ⊢
  have C2 := Lib.hid (numbered_any p i w (by simp at hl2; omega) hi)
  clear hp hi hl hl2
  go_enter Tryd.func21, Tryd.ntmps21
  go_wp2_with fail
  refine C.out.mono ?_
  rintro e w' ⟨rfl, rfl⟩
  go_wp2_with fail
  refine C2.out.mono ?_
  rintro e w' ⟨rfl, hb⟩
  have HB := Lib.hid hb
  clear hb
  go_wp2_with fail
  go_ret
  exact ⟨rfl, HB.out⟩
theorem sub_any (u f : List UInt8) (w : World) (hu : u.length ≤ 9223372036854775807) (hf : f.length ≤ 9223372036854775807) : Calls Tryd.prog 20 #[str u, str f] w fun e w' => e = .returned (str (underL (withinL [115, 47] u) f)) ∧ w' = w := by
  have C := Lib.hid (subs_any u w hu)
  have hl := withinL_len [115, 47] u
  obtain ⟨p, hp⟩ : ∃ p, p = withinL [115, 47] u := ⟨_, rfl⟩
  rw [← hp] at C hl ⊢
  have C2 := Lib.hid (under_any p f w (by simp at hl; omega) hf)
  clear hp
  go_enter Tryd.func20, Tryd.ntmps20
  go_wp2_with fail
  refine C.out.mono ?_
  rintro e w' ⟨rfl, rfl⟩
  go_wp2_with fail
  refine C2.out.mono ?_
  rintro e w' ⟨rfl, rfl⟩
  go_wp2_with fail
  go_ret
  exact ⟨rfl, rfl⟩
theorem folder_any (u f : List UInt8) (w : World) (hu : u.length ≤ 9223372036854775807) (hf : f.length ≤ 9223372036854775807) : Calls Tryd.prog 22 #[str u, str f] w fun e w' => e = .returned (str (underL (withinL [100, 47] u) f)) ∧ w' = w := by
  have C := Lib.hid (folders_any u w hu)
  have hl := withinL_len [100, 47] u
  obtain ⟨p, hp⟩ : ∃ p, p = withinL [100, 47] u := ⟨_, rfl⟩
  rw [← hp] at C hl ⊢
  have C2 := Lib.hid (under_any p f w (by simp at hl; omega) hf)
  clear hp
  go_enter Tryd.func22, Tryd.ntmps22
  go_wp2_with fail
  refine C.out.mono ?_
  rintro e w' ⟨rfl, rfl⟩
  go_wp2_with fail
  refine C2.out.mono ?_
  rintro e w' ⟨rfl, rfl⟩
  go_wp2_with fail
  go_ret
  exact ⟨rfl, rfl⟩
theorem marks_any (u f : List UInt8) (w : World) (hu : u.length ≤ 9223372036854775807) (hf : f.length ≤ 9223372036854775807) : Calls Tryd.prog 31 #[str u, str f] w fun e w' => e = .returned (str (underL (withinL [109, 47] u) f)) ∧ w' = w := by
  have C := Lib.hid (within_any [109, 47] u w (by simp) hu)
  have hl := withinL_len [109, 47] u
  obtain ⟨p, hp⟩ : ∃ p, p = withinL [109, 47] u := ⟨_, rfl⟩
  rw [← hp] at C hl ⊢
  have C2 := Lib.hid (under_any p f w (by simp at hl; omega) hf)
  clear hp
  go_enter Tryd.func31, Tryd.ntmps31
  go_wp2_with fail
  refine C.out.mono ?_
  rintro e w' ⟨rfl, rfl⟩
  go_wp2_with fail
  refine C2.out.mono ?_
  rintro e w' ⟨rfl, rfl⟩
  go_wp2_with fail
  go_ret
  exact ⟨rfl, rfl⟩
theorem guid_any (f g : List UInt8) (w : World) (hf : f.length ≤ 9223372036854775807) (hg : g.length ≤ 9223372036854775807) : Calls Tryd.prog 30 #[str f, str g] w fun e w' => e = .returned (str (guidL f g)) ∧ Below w.heap.size w w' := by
  have C := Lib.hid (name_any f w hf)
  cases hn : nameB f with
  | false =>
    have HE := Lib.hid (show guidL f g = [] by unfold guidL; rw [if_pos (.inl hn)])
    rw [hn] at C
    clear hn
    go_enter Tryd.func30, Tryd.ntmps30
    go_wp2_with fail
    refine C.out.mono ?_
    rintro e w' ⟨rfl, rfl⟩
    go_wp2_with fail
    go_ret
    exact ⟨by rw [HE.out]; rfl, Below.refl _ _⟩
  | true =>
    rw [hn] at C
    have hfl := (nameB_len hn).2
    by_cases h0 : g = []
    · subst h0
      have HE := Lib.hid (show guidL f [] = [] by unfold guidL; rw [if_pos (.inr (.inl rfl))])
      clear hn
      go_enter Tryd.func30, Tryd.ntmps30
      go_wp2_with fail
      refine C.out.mono ?_
      rintro e w' ⟨rfl, rfl⟩
      go_wp2_with fail
      go_ret
      exact ⟨by rw [HE.out]; rfl, Below.refl _ _⟩
    · have t0 : (g == ([] : List UInt8)) = false := by rw [beq_eq_false_iff_ne]; exact h0
      by_cases h1 : 500 < g.length
      · have HE := Lib.hid (show guidL f g = [] by unfold guidL; rw [if_pos (.inr (.inr h1))])
        have t1 : (500 : Int) < (g.length : Int) := by omega
        clear hn h0 h1
        go_enter Tryd.func30, Tryd.ntmps30
        go_wp2_with fail
        refine C.out.mono ?_
        rintro e w' ⟨rfl, rfl⟩
        go_wp2_with fail
        go_ret
        exact ⟨by rw [HE.out]; rfl, Below.refl _ _⟩
      · have HE := Lib.hid (show guidL f g = 103 :: 47 :: (f ++ 47 :: hexL g) by unfold guidL; rw [if_neg (by simp [hn, h0]; omega)])
        have t1 : ¬ (500 : Int) < (g.length : Int) := by omega
        have c1 := str_cat [103, 47] f
        have c2 : ¬ (9223372036854775807 < 2 + f.length) := by omega
        have c3 := str_cat (103 :: 47 :: f) [47]
        obtain ⟨cap, w2, hcv, hrd, hb2⟩ := bytes_run g w (by omega)
        have CH := Lib.hid (hex_any _ g w2 hrd (by omega))
        have hxl : (hexL g).length ≤ 1000 := by rw [hexL_length]; omega
        obtain ⟨X, hX⟩ : ∃ X, X = hexL g := ⟨_, rfl⟩
        rw [← hX] at CH HE hxl
        have HB2 := Lib.hid hb2
        have c4 := str_cat (103 :: 47 :: (f ++ [47])) X
        have c5 : ¬ (9223372036854775807 < f.length + 1 + 1 + 1 + X.length) := by omega
        have e1 : 103 :: 47 :: (f ++ [47]) ++ X = 103 :: 47 :: (f ++ 47 :: X) := by simp
        rw [e1] at c4
        clear hn h0 hrd hb2 hX e1
        go_enter Tryd.func30, Tryd.ntmps30
        go_wp2_with fail
        refine C.out.mono ?_
        rintro e w' ⟨rfl, rfl⟩
        go_wp2_with fail
        refine CH.out.mono ?_
        rintro e w3 ⟨rfl, hb3⟩
        have HB3 := Lib.hid (HB2.out.trans (hb3.mono HB2.out.size))
        clear hb3
        go_wp2_with fail
        go_ret
        exact ⟨by rw [HE.out]; rfl, HB3.out⟩
end Go.Proofs.YtonkfekjhbfelaaDoor
