/- Layer 5: DateReads. -/
import Derived.Test.YtnaafdennieedaaRAny
import Derived.Test.YtnaafdennieedaaRDate
namespace Go.Proofs.Ytnaafdennieedaa
open Go.RowKit

/-- What a second's text is, and whether there is one. -/
def Told (t : Int) (l : List UInt8) (x : Int) : Prop := ((t < 0 ∨ 253402300800 ≤ t) ∧ l = [] ∧ x = 1) ∨ (¬ (t < 0 ∨ 253402300800 ≤ t) ∧ x = 0 ∧ ∃ y mo d h mi s : Nat, mkB y mo d h mi s = true ∧ mkV y mo d h mi s = t ∧ s ≤ 59 ∧ l = dtext y mo d h mi s)
theorem told_one {t x x' : Int} {l l' : List UInt8} (h : Told t l x) (h' : Told t l' x') : l = l' ∧ x = x' := by
  rcases h with ⟨g, h1, h2⟩ | ⟨g, h1, y, mo, d, hh, mi, s, h2, h3, h4, h5⟩
  · rcases h' with ⟨_, k1, k2⟩ | ⟨g', _⟩
    · exact ⟨h1.trans k1.symm, h2.trans k2.symm⟩
    · exact (g' g).elim
  · rcases h' with ⟨g', _⟩ | ⟨_, k1, y', mo', d', hh', mi', s', k2, k3, k4, k5⟩
    · exact (g g').elim
    · exact ⟨by rw [h5, k5]; exact dtext_eq _ _ _ _ _ _ _ _ _ _ _ _ h2 h4 k2 k4 (h3.trans k3.symm), h1.trans k1.symm⟩
theorem print_told (t : Int) (W : World) : Calls Try.prog 15 #[.int .i64 t] W fun e w' => ∃ l x, e = .returned (.tuple #[str l, .int .i64 x]) ∧ Told t l x ∧ Below W.heap.size W w' := by
  by_cases h : t < 0 ∨ 253402300800 ≤ t
  · exact (print_no t W h).mono fun e w' ⟨he, hw⟩ => ⟨[], 1, he, .inl ⟨h, rfl, rfl⟩, by rw [hw]; exact Below.refl _ _⟩
  · exact (print_yes t W (by omega) (by omega)).mono fun e w' ⟨y, mo, d, hh, mi, s, he, h1, h2, h3, hb⟩ => ⟨_, 0, he, .inr ⟨h, rfl, y, mo, d, hh, mi, s, h1, h2, h3, rfl⟩, hb⟩
theorem date_told (t : Int) (W : World) : Calls Try.prog 16 #[.int .i64 t] W fun e w' => ∃ l x, e = .returned (.tuple #[str l, .int .i64 x]) ∧ Told t l x ∧ Below W.heap.size W w' := by
  by_cases h : t < 0 ∨ 253402300800 ≤ t
  · exact (rdate_no t W h).mono fun e w' ⟨he, hw⟩ => ⟨[], 1, he, .inl ⟨h, rfl, rfl⟩, by rw [hw]; exact Below.refl _ _⟩
  · exact (rdate_yes t W (by omega) (by omega)).mono fun e w' ⟨y, mo, d, hh, mi, s, he, h1, h2, h3, hb⟩ => ⟨_, 0, he, .inr ⟨h, rfl, y, mo, d, hh, mi, s, h1, h2, h3, rfl⟩, hb⟩
theorem make_both (y mo d h mi s : Int) : ∃ (v : Int) (b : Bool), (∀ W, Calls Try.prog 17 #[.int .i64 y, .int .i64 mo, .int .i64 d, .int .i64 h, .int .i64 mi, .int .i64 s] W fun e w' => e = .returned (.tuple #[.int .i64 v, .bool b]) ∧ w' = W) ∧
    (∀ W, Calls Try.prog 18 #[.int .i64 y, .int .i64 mo, .int .i64 d, .int .i64 h, .int .i64 mi, .int .i64 s] W fun e w' => e = .returned (.tuple #[.int .i64 v, .bool b]) ∧ w' = W) := by
  cases H : mkB y mo d h mi s with
  | true =>
    refine ⟨mkV y mo d h mi s, true, fun W => ?_, fun W => rmake_yes y mo d h mi s W H⟩
    exact (make_any y mo d h mi s W).mono fun e w' ⟨he, hw⟩ => ⟨by rw [he]; unfold makeE; rw [H, if_pos rfl], hw⟩
  | false =>
    refine ⟨0, false, fun W => ?_, fun W => rmake_no y mo d h mi s W H⟩
    exact (make_any y mo d h mi s W).mono fun e w' ⟨he, hw⟩ => ⟨by rw [he]; unfold makeE; rw [H]; rfl, hw⟩
theorem dstr_of (a : ByteArray) : ∃ l : List UInt8, Value.string a = str l := ⟨a.data.toList, by cases a; rfl⟩
set_option maxRecDepth 100000 in
set_option maxHeartbeats 6400000 in
theorem dreads_list (s : List UInt8) (t y mo d h mi c : Int) (w : World) (hl : s.length ≤ 9223372036854775807) :
    Calls Try.prog 3 #[str s, .int .i64 t, .int .i64 y, .int .i64 mo, .int .i64 d, .int .i64 h, .int .i64 mi, .int .i64 c] w fun e w' => e = .returned (.bool true) ∧ Below w.heap.size w w' := by
  by_cases hbig : 500 < s.length
  · have k1 : (500 : Int) < (s.length : Int) := by omega
    clear hbig
    go_enter Try.func3, Try.ntmps3
    go_wp2_with fail
    refine (dfirst_any _).mono ?_
    rintro e w1 ⟨rfl, hb1⟩
    have HB1 := Lib.hid hb1
    clear hb1
    go_wp2_with fail
    refine (dfirst_any _).mono ?_
    rintro e w2 ⟨rfl, hb2⟩
    have HB2 := Lib.hid (HB1.out.trans (hb2.mono HB1.out.size))
    clear hb2
    go_wp2_with fail
    go_ret
    exact ⟨rfl, HB2.out⟩
  · have k1 : ¬ (500 : Int) < (s.length : Int) := by omega
    have C1 := Lib.hid (fun W => mail_any s W (by omega))
    have C2 := Lib.hid (fun W => rmail_any s W (by omega))
    have C3 := Lib.hid (fun W => net_any s W (by omega))
    have C4 := Lib.hid (fun W => rnet_any s W (by omega))
    have C5 := Lib.hid (fun W => any_any s W (by omega))
    have C6 := Lib.hid (fun W => rany_any s W (by omega))
    rw [← mail_ref] at C2
    obtain ⟨a, ha⟩ : ∃ a, a = (if (netR s).2 = 4 then mailR s else netR s) := ⟨_, rfl⟩
    rw [← ha] at C5 C6
    obtain ⟨n, hn⟩ : ∃ n, n = netR s := ⟨_, rfl⟩
    rw [← hn] at C3 C4
    obtain ⟨m, hm⟩ : ∃ m, m = mailR s := ⟨_, rfl⟩
    rw [← hm] at C1 C2
    clear ha hn hm hbig
    obtain ⟨m1, m2⟩ := m
    obtain ⟨n1, n2⟩ := n
    obtain ⟨a1, a2⟩ := a
    obtain ⟨v, b, CM, CN⟩ := make_both y mo d h mi c
    replace CM := Lib.hid CM
    replace CN := Lib.hid CN
    have CP := Lib.hid (print_told t)
    have CD := Lib.hid (date_told t)
    unfold twoE at C1 C2 C3 C4 C5 C6
    dsimp only at C1 C2 C3 C4 C5 C6
    go_enter Try.func3, Try.ntmps3
    go_wp2_with fail
    refine (dfirst_any _).mono ?_
    rintro e w1 ⟨rfl, hb1⟩
    have HB := Lib.hid hb1
    clear hb1
    go_wp2_with fail
    refine (C1.out _).mono ?_
    rintro e w2 ⟨rfl, hb2⟩
    have HB := Lib.hid (HB.out.trans (hb2.mono HB.out.size))
    clear hb2
    go_wp2_with fail
    refine (C2.out _).mono ?_
    rintro e w3 ⟨rfl, hb3⟩
    have HB := Lib.hid (HB.out.trans (hb3.mono HB.out.size))
    clear hb3
    go_wp2_with fail
    refine (C3.out _).mono ?_
    rintro e w4 ⟨rfl, hb4⟩
    have HB := Lib.hid (HB.out.trans (hb4.mono HB.out.size))
    clear hb4
    go_wp2_with fail
    refine (C4.out _).mono ?_
    rintro e w5 ⟨rfl, hb5⟩
    have HB := Lib.hid (HB.out.trans (hb5.mono HB.out.size))
    clear hb5
    go_wp2_with fail
    refine (C5.out _).mono ?_
    rintro e w6 ⟨rfl, hb6⟩
    have HB := Lib.hid (HB.out.trans (hb6.mono HB.out.size))
    clear hb6
    go_wp2_with fail
    refine (C6.out _).mono ?_
    rintro e w7 ⟨rfl, hb7⟩
    have HB := Lib.hid (HB.out.trans (hb7.mono HB.out.size))
    clear hb7
    go_wp2_with fail
    refine (CP.out _).mono ?_
    rintro e w8 ⟨l, x, rfl, hx, hb8⟩
    have HB := Lib.hid (HB.out.trans (hb8.mono HB.out.size))
    have HX := Lib.hid hx
    clear hb8 hx
    go_wp2_with fail
    refine (CD.out _).mono ?_
    rintro e w9 ⟨l2, x2, rfl, hx, hb9⟩
    have HB := Lib.hid (HB.out.trans (hb9.mono HB.out.size))
    obtain ⟨rfl, rfl⟩ := told_one HX.out hx
    clear hb9 hx HX
    go_wp2_with fail
    refine (CM.out _).mono ?_
    rintro e wa ⟨rfl, rfl⟩
    go_wp2_with fail
    refine (CN.out _).mono ?_
    rintro e wb ⟨rfl, rfl⟩
    go_wp2_with fail
    refine (dfirst_any _).mono ?_
    rintro e wc ⟨rfl, hbc⟩
    have HB := Lib.hid (HB.out.trans (hbc.mono HB.out.size))
    clear hbc C1 C2 C3 C4 C5 C6 CM CN CP CD
    have q1 : (b == b) = true := by simp
    go_wp2_with fail
    go_ret
    exact ⟨rfl, HB.out⟩
theorem dreads_walk (a0 : ByteArray) (t y mo d h mi c : Int) (w : World) (h0 : a0.size ≤ maxLen) (_h1 : -9223372036854775808 ≤ t ∧ t ≤ 9223372036854775807) (_h2 : -9223372036854775808 ≤ y ∧ y ≤ 9223372036854775807) (_h3 : -9223372036854775808 ≤ mo ∧ mo ≤ 9223372036854775807) (_h4 : -9223372036854775808 ≤ d ∧ d ≤ 9223372036854775807)
    (_h5 : -9223372036854775808 ≤ h ∧ h ≤ 9223372036854775807) (_h6 : -9223372036854775808 ≤ mi ∧ mi ≤ 9223372036854775807) (_h7 : -9223372036854775808 ≤ c ∧ c ≤ 9223372036854775807) :
    Calls Try.prog 3 #[.string a0, .int .i64 t, .int .i64 y, .int .i64 mo, .int .i64 d, .int .i64 h, .int .i64 mi, .int .i64 c] w fun e w' => e = .returned (.bool true) ∧ Below w.heap.size w w' := by
  obtain ⟨s, hs⟩ : ∃ s : List UInt8, a0 = ⟨s.toArray⟩ := ⟨a0.data.toList, by cases a0; simp⟩
  subst hs
  have hls : s.length ≤ 9223372036854775807 := by
    unfold maxLen at h0
    simp [ByteArray.size] at h0
    omega
  exact dreads_list s t y mo d h mi c w hls
end Go.Proofs.Ytnaafdennieedaa
