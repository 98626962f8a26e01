/- hblref14.Prefix; hbllaw14.parts, by their contracts. -/
import Derived.Test.YtonkfekjhbfelaaDoorRefKey
import Derived.Test.YtonkfekjhbfelaaDoorKApart
namespace Go.Proofs.YtonkfekjhbfelaaDoor
open Go.RowKit
attribute [local go_sem] str_cat

theorem lparts_any (k : Int) (u f n g : List UInt8) (i : Int) (w : World) : Calls Tryd.prog 11 #[pak k u f n g i] w fun e w' => e = .returned (pak k u f n g i) ∧ Below w.heap.size w w' := by
  have HB := Lib.hid ((below_alloc w (.cells #[.int .i64 k, str u, str f, str n, str g, .int .i64 i] 23)).alloc (by simp) (.cells #[.int .i64 k, str u, str f, str n, str g, .int .i64 i] 27))
  go_enter Tryd.func11, Tryd.ntmps11
  go_wp2_with fail
  refine bodyPost_ret (v := pak k u f n g i) (by simp [results, Tryd.results11, go_sem]) rfl ⟨rfl, ?_⟩
  exact HB.out
set_option maxRecDepth 100000 in
set_option maxHeartbeats 2000000 in
theorem pref_u (k : Int) (c : UInt8) (hk : (k = 4 ∧ c = 115) ∨ (k = 5 ∧ c = 100)) (u f : List UInt8) (w : World) (hu : u.length ≤ 9223372036854775807) (hf : f.length ≤ 9223372036854775807) :
    Calls Tryd.prog 15 #[.int .i64 k, str u, str f] w fun e w' => e = .returned (str (withinL [c, 47] u)) ∧ w' = w := by
  have NU := Lib.hid (fun W => rname_any u W hu)
  have NF := Lib.hid (fun W => rname_any f W hf)
  obtain ⟨U, hU⟩ : ∃ U, U = nameB u := ⟨_, rfl⟩
  obtain ⟨F, hF⟩ : ∃ U, U = nameB f := ⟨_, rfl⟩
  rw [← hU] at NU
  rw [← hF] at NF
  clear hF hf hu
  cases U
  · have HE := Lib.hid (show withinL [c, 47] u = [] from withinL_no hU.symm)
    clear hU
    rcases hk with ⟨rfl, rfl⟩ | ⟨rfl, rfl⟩
    all_goals
      go_enter Tryd.func15, Tryd.ntmps15
      go_wp2_with fail
      refine (NU.out _).mono ?_
      rintro e w' ⟨rfl, rfl⟩
      go_wp2_with fail
      refine (NF.out _).mono ?_
      rintro e w' ⟨rfl, rfl⟩
      go_wp2_with fail
      go_ret
      exact ⟨by rw [HE.out]; rfl, rfl⟩
  · have HE := Lib.hid (show withinL [c, 47] u = c :: 47 :: (u ++ [47]) by rw [withinL_is (by simp) hU.symm]; simp)
    have l0 := (nameB_len hU.symm).2
    clear hU
    rcases hk with ⟨rfl, rfl⟩ | ⟨rfl, rfl⟩
    all_goals
      go_enter Tryd.func15, Tryd.ntmps15
      go_wp2_with fail
      refine (NU.out _).mono ?_
      rintro e w' ⟨rfl, rfl⟩
      go_wp2_with fail
      refine (NF.out _).mono ?_
      rintro e w' ⟨rfl, rfl⟩
      go_wp2_with fail
      go_ret
      exact ⟨by rw [HE.out]; rfl, rfl⟩
set_option maxRecDepth 100000 in
set_option maxHeartbeats 2000000 in
theorem pref_e (u f : List UInt8) (w : World) (hu : u.length ≤ 9223372036854775807) (hf : f.length ≤ 9223372036854775807) :
    Calls Tryd.prog 15 #[.int .i64 2, str u, str f] w fun e w' => e = .returned (str (withinL [101, 47] f)) ∧ w' = w := by
  have NU := Lib.hid (fun W => rname_any u W hu)
  have NF := Lib.hid (fun W => rname_any f W hf)
  obtain ⟨U, hU⟩ : ∃ U, U = nameB u := ⟨_, rfl⟩
  obtain ⟨F, hF⟩ : ∃ U, U = nameB f := ⟨_, rfl⟩
  rw [← hU] at NU
  rw [← hF] at NF
  clear hU hf hu
  cases F
  · have HE := Lib.hid (show withinL [101, 47] f = [] from withinL_no hF.symm)
    clear hF
    go_enter Tryd.func15, Tryd.ntmps15
    go_wp2_with fail
    refine (NU.out _).mono ?_
    rintro e w' ⟨rfl, rfl⟩
    go_wp2_with fail
    refine (NF.out _).mono ?_
    rintro e w' ⟨rfl, rfl⟩
    go_wp2_with fail
    go_ret
    exact ⟨by rw [HE.out]; rfl, rfl⟩
  · have HE := Lib.hid (show withinL [101, 47] f = 101 :: 47 :: (f ++ [47]) by rw [withinL_is (by simp) hF.symm]; simp)
    have l0 := (nameB_len hF.symm).2
    clear hF
    go_enter Tryd.func15, Tryd.ntmps15
    go_wp2_with fail
    refine (NU.out _).mono ?_
    rintro e w' ⟨rfl, rfl⟩
    go_wp2_with fail
    refine (NF.out _).mono ?_
    rintro e w' ⟨rfl, rfl⟩
    go_wp2_with fail
    go_ret
    exact ⟨by rw [HE.out]; rfl, rfl⟩
set_option maxRecDepth 100000 in
set_option maxHeartbeats 4000000 in
theorem pref_s (u f : List UInt8) (w : World) (hu : u.length ≤ 9223372036854775807) (hf : f.length ≤ 9223372036854775807) :
    Calls Tryd.prog 15 #[.int .i64 6, str u, str f] w fun e w' => e = .returned (str (withinL (withinL [114, 47] u) f)) ∧ w' = w := by
  have NU := Lib.hid (fun W => rname_any u W hu)
  have NF := Lib.hid (fun W => rname_any f W hf)
  obtain ⟨U, hU⟩ : ∃ U, U = nameB u := ⟨_, rfl⟩
  obtain ⟨F, hF⟩ : ∃ U, U = nameB f := ⟨_, rfl⟩
  rw [← hU] at NU
  rw [← hF] at NF
  clear hf hu
  have key : ∃ V, withinL (withinL [114, 47] u) f = V ∧ ((U = false ∧ V = []) ∨ (U = true ∧ F = false ∧ V = []) ∨ (U = true ∧ F = true ∧ u.length ≤ 20 ∧ f.length ≤ 20 ∧ V = 114 :: 47 :: (u ++ 47 :: (f ++ [47])))) := by
    refine ⟨_, rfl, ?_⟩
    cases U
    · exact .inl ⟨rfl, by rw [withinL_no hU.symm, withinL_nil]⟩
    cases F
    · exact .inr (.inl ⟨rfl, rfl, withinL_no hF.symm⟩)
    · exact .inr (.inr ⟨rfl, rfl, (nameB_len hU.symm).2, (nameB_len hF.symm).2, by rw [withinL_is (by simp) hU.symm, withinL_is (by simp) hF.symm]; simp⟩)
  obtain ⟨V, hV, hk⟩ := key
  rw [hV]
  clear hV hU hF
  rcases hk with ⟨rfl, rfl⟩ | ⟨rfl, rfl, rfl⟩ | ⟨rfl, rfl, l0, l1, rfl⟩
  all_goals
    go_enter Tryd.func15, Tryd.ntmps15
    go_wp2_with fail
    refine (NU.out _).mono ?_
    rintro e w' ⟨rfl, rfl⟩
    go_wp2_with fail
    refine (NF.out _).mono ?_
    rintro e w' ⟨rfl, rfl⟩
    go_wp2_with fail
    go_ret
    exact ⟨rfl, rfl⟩
end Go.Proofs.YtonkfekjhbfelaaDoor
