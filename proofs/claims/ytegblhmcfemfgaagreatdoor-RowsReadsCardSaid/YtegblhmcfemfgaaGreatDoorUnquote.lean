import Derived.Test.YtegblhmcfemfgaaGreatDoorStep
namespace Go.Proofs.YtegblhmcfemfgaaGreatDoor
open Go.RowKit
theorem sb_len (c : Nat) : (sb c).length ≤ 4 := by
 unfold sb
 split
 · simp
 split
 · simp
 split
 · simp
 simp
theorem unitF_len (c m : Nat) : (unitF c m).2.2.length ≤ 4 ∧ (unitF c m).2.1 = m := by
 unfold unitF
 split
 · exact ⟨sb_len c, rfl⟩
 simp
theorem unitR_use (t : List UInt8) (p : Nat) (hp : p ≤ t.length) : p + (unitR t p).2.1 ≤ t.length ∧ (unitR t p).2.2.length ≤ 4 := by
 have hm := fourR_use 4 (t.drop p) 0
 rw [List.length_drop] at hm
 have hs := secR_use t (p + (fourR 4 (t.drop p) 0).2.2) (by omega)
 unfold unitR
 split
 · simp only [List.length_nil]; omega
 split
 · split
   · simp only [List.length_nil]; omega
   have := unitF_len (65536 + ((fourR 4 (t.drop p) 0).1 - 55296) * 1024 + ((secR t (p + (fourR 4 (t.drop p) 0).2.2)).1 - 56320)) ((fourR 4 (t.drop p) 0).2.2 + (secR t (p + (fourR 4 (t.drop p) 0).2.2)).2.2)
   rw [this.2]; exact ⟨by omega, this.1⟩
 have := unitF_len (fourR 4 (t.drop p) 0).1 (fourR 4 (t.drop p) 0).2.2
 rw [this.2]; exact ⟨by omega, this.1⟩
theorem escR_use (t : List UInt8) (p : Nat) (hp : p ≤ t.length) : p + (escR t p).2.1 ≤ t.length ∧ (escR t p).2.2.length ≤ 4 := by
 unfold escR
 split
 · simp; omega
 next c hc =>
 have hlt : p < t.length := (List.getElem?_eq_some_iff.1 hc).1
 split
 · have := unitR_use t (p + 1) (by omega)
   exact ⟨by simp only; omega, this.2⟩
 split
 · simp; omega
 simp; omega
theorem stepR_use (t : List UInt8) (p : Nat) (hp : p ≤ t.length) : p + (stepR t p).2.2.1 ≤ t.length ∧ (stepR t p).2.2.2.length ≤ 4 * (stepR t p).2.2.1 := by
 unfold stepR
 split
 · simp; omega
 next c hc =>
 have hlt : p < t.length := (List.getElem?_eq_some_iff.1 hc).1
 split
 · simp; omega
 split
 · have := escR_use t (p + 1) (by omega)
   simp only; omega
 split
 · simp; omega
 have := sgn_le (t.drop p)
 rw [List.length_drop] at this
 simp; omega
theorem stepR_pos (t : List UInt8) (p : Nat) (h : (stepR t p).2.1 = 0) : 1 ≤ (stepR t p).2.2.1 := by
 unfold stepR at h ⊢
 split
 · next hc => rw [hc] at h; simp at h
 · next c hc =>
   rw [hc] at h
   simp only at h
   split
   · simp
   split
   · simp
   split
   · next h1 h2 h3 => rw [if_neg h1, if_neg h2, if_pos h3] at h; simp at h
   · next h3 => simp only; omega
theorem RS.made (w : World) (t : List UInt8) (p : Nat) (T : TypeId) : RS (w.alloc (.cells #[str t, .int .i64 (p : Int), .slice none 0 0] T)) w.heap.size t p [] :=
 ⟨.slice none 0 0, T, heap_alloc_new w _, Own.nil _ _ _⟩
def unqF : Nat → List UInt8 → Nat → List UInt8 → List UInt8 × Nat × Nat
 | 0, _, _, _ => ([], 0, 2)
 | f + 1, t, p, o => if (stepR t p).2.1 ≠ 0 then ([], 0, (stepR t p).2.1) else if (stepR t p).1 = true then (o ++ (stepR t p).2.2.2, p + (stepR t p).2.2.1, 0)
   else unqF f t (p + (stepR t p).2.2.1) (o ++ (stepR t p).2.2.2)
def unqR (t : List UInt8) (a : Int) : List UInt8 × Nat × Nat :=
 if a < 0 ∨ (t.length : Int) < a then ([], 0, 1) else if wantN t a.toNat 34 ≠ 0 then ([], 0, wantN t a.toNat 34) else unqF (t.length + 1) t (a.toNat + 1) []
def unqE (r : List UInt8 × Nat × Nat) : Ending := .returned (.tuple #[str r.1, .int .i64 (r.2.1 : Int), .int .i64 (r.2.2 : Int)])
theorem unqF_len : ∀ (f : Nat) (t : List UInt8) (p : Nat) (o : List UInt8), p ≤ t.length → o.length ≤ 4 * p → (unqF f t p o).1.length ≤ 4 * t.length ∧ (unqF f t p o).2.1 ≤ t.length
 | 0, t, p, o, _, _ => by simp [unqF]
 | f + 1, t, p, o, hp, ho => by
   have h := stepR_use t p hp
   rw [unqF]
   split
   · simp
   split
   · simp only [List.length_append]; omega
   exact unqF_len f t _ _ h.1 (by rw [List.length_append]; omega)
theorem unqR_len (t : List UInt8) (a : Int) : (unqR t a).1.length ≤ 4 * t.length ∧ (unqR t a).2.1 ≤ t.length := by
 unfold unqR
 split
 · simp
 split
 · simp
 · next h1 h2 =>
   have := wantN_zero (Decidable.not_not.1 h2)
   exact unqF_len _ _ _ _ (by omega) (by simp)
set_option maxRecDepth 100000 in
set_option maxHeartbeats 3200000 in
theorem unquote_any (t : List UInt8) (a : Int) (w : World) (hl : t.length ≤ 17592186044416) :
 Calls Tryz.prog 128 #[str t, .int .i64 a] w fun e w' => e = unqE (unqR t a) ∧ Below w.heap.size w w' := by
 by_cases h1 : a < 0
 · have hv : unqR t a = ([], 0, 1) := by rw [unqR, if_pos (.inl h1)]
   rw [hv]
   clear hv
   go_enter Tryz.func128, Tryz.ntmps128
   go_wp2_with fail
   go_ret3
   exact ⟨rfl, Below.refl _ _⟩
 by_cases h2 : (t.length : Int) < a
 · have hv : unqR t a = ([], 0, 1) := by rw [unqR, if_pos (.inr h2)]
   rw [hv]
   clear hv
   go_enter Tryz.func128, Tryz.ntmps128
   go_wp2_with fail
   go_ret3
   exact ⟨rfl, Below.refl _ _⟩
 obtain ⟨p, rfl⟩ := Int.eq_ofNat_of_zero_le (show 0 ≤ a by omega)
 have hp : p ≤ t.length := by omega
 have g1 : (0 : Int) ≤ (p : Int) := by omega
 have g2 : (p : Int) ≤ (t.length : Int) := by omega
 have hu : unqR t (p : Int) = if wantN t p 34 ≠ 0 then ([], 0, wantN t p 34) else unqF (t.length + 1) t (p + 1) [] := by rw [unqR, if_neg (by omega)]; rfl
 have HU := Lib.hid hu
 clear hu h1 h2
 obtain ⟨n, hn⟩ : ∃ n, n = wantN t p 34 := ⟨_, rfl⟩
 have HN := Lib.hid hn
 have hwant := want_any t [] w.heap.size p 34
 rw [← hn] at hwant
 have HW := Lib.hid hwant
 clear hn hwant
 go_enter Tryz.func128, Tryz.ntmps128
 go_wp2_with fail
 have hrs0 := RS.made w t p 197
 have hb0 := below_alloc w (.cells #[str t, .int .i64 (p : Int), .slice none 0 0] 197)
 refine (HW.out _ hrs0 hp (by omega)).mono ?_
 rintro e w1 ⟨rfl, hrs1, hb1, _⟩
 have hB1 := hb0.trans hb1
 clear hb0 hb1 hrs0
 by_cases hz : n = 0
 · have n1 : ((n : Int) != 0) = false := by rw [hz]; rfl
   rw [if_pos hz] at hrs1
   have hv : unqR t (p : Int) = unqF (t.length + 1) t (p + 1) [] := by rw [HU.out, ← HN.out, if_neg (by simpa using hz)]
   have hpl := wantN_zero (show wantN t p 34 = 0 by rw [← HN.out, hz])
   have HV := Lib.hid hv
   clear hv hz
   go_wp2_with fail
   go_loopw [9] (fun _ wr => ∃ (f q : Nat) (o : List UInt8), t.length - q < f ∧ q ≤ t.length ∧ o.length ≤ 4 * q ∧ RS wr w.heap.size t q o ∧ Below w.heap.size w wr ∧ Hid (unqR t (p : Int) = unqF f t q o))
    (fun _ wr => match wr.cell? ⟨w.heap.size, 1, none⟩ with | some (.int _ n) => t.length - n.toNat | _ => 0)
   case atStart => exact ⟨t.length + 1, p + 1, [], by omega, by omega, by simp, hrs1, hB1, HV⟩
   case round =>
    obtain ⟨f, q, o, hf, hq, ho, hrs, hb, hr⟩ := hrel
    obtain ⟨f, rfl⟩ : ∃ g, f = g + 1 := ⟨f - 1, by omega⟩
    have hcq := Lib.hid hrs.c1
    have hus := stepR_use t q hq
    have hpos := stepR_pos t q
    obtain ⟨dn, er, us, by_, hs⟩ : ∃ dn er us by_, stepR t q = (dn, er, us, by_) := ⟨_, _, _, _, rfl⟩
    have hr2 := hr.out
    rw [unqF, hs] at hr2
    rw [hs] at hus hpos
    simp only at hus hpos hr2
    have HR := Lib.hid hr2
    have HS := Lib.hid hs
    have HPOS := Lib.hid hpos
    clear hr hr2 hs hpos
    go_wp2_with fail
    refine (step_any t o w.heap.size q _ hrs hq (by omega) (by omega)).mono ?_
    rintro e w3 ⟨rfl, hrs3, hb3⟩
    rw [HS.out] at hrs3 ⊢
    simp only at hrs3 ⊢
    have hB3 := hb.trans hb3
    clear hrs hb hb3
    by_cases he : er = 0
    · have m1 : ((er : Int) != 0) = false := by rw [he]; rfl
      have hp1 := HPOS.out he
      cases dn
      · have hv : unqR t (p : Int) = unqF f t (q + us) (o ++ by_) := by rw [HR.out, if_neg (by simpa using he), if_neg (by simp)]
        have HV := Lib.hid hv
        clear hv he
        go_wp2_with fail
        have hc3 := Lib.hid hrs3.c1
        go_roundw
        case rel => exact ⟨f, q + us, o ++ by_, by omega, by omega, by rw [List.length_append]; omega, hrs3, hB3, HV⟩
        case measure => rw [hc3.out, hcq.out]; simp; omega
      have hv : unqR t (p : Int) = (o ++ by_, q + us, 0) := by rw [HR.out, if_neg (by simpa using he), if_pos rfl]
      have HV := Lib.hid hv
      clear hv he
      obtain ⟨v, hc2, hov⟩ := hrs3.c2
      have h13 := hrs3.c1
      have hbw3 := hrs3.lt
      have HRS3 := Lib.hid hrs3
      obtain ⟨a4, n4, cap4, rfl⟩ := hov.form
      have hconv := fun m => bt.toString (w := w3.drewN m) (S := 9) Tryz.underlying9 (hov.rd.drewN m)
      clear hrs3
      go_wp2_with fail
      go_quiet (fail)
      go_wp2_with fail
      go_ret3
      exact ⟨by rw [HV.out]; rfl, Below.drewsN hB3 _⟩
    have m1 : ((er : Int) != 0) = true := by rw [bne_iff_ne]; omega
    have hv : unqR t (p : Int) = ([], 0, er) := by rw [HR.out, if_pos he]
    have HV := Lib.hid hv
    clear hv he
    go_wp2_with fail
    go_ret3
    exact ⟨by rw [HV.out]; rfl, hB3⟩
 · have n1 : ((n : Int) != 0) = true := by rw [bne_iff_ne]; omega
   have hv : unqR t (p : Int) = ([], 0, n) := by rw [HU.out, ← HN.out, if_pos hz]
   have HV := Lib.hid hv
   clear hv hz
   go_wp2_with fail
   go_ret3
   exact ⟨by rw [HV.out]; rfl, hB1⟩
end Go.Proofs.YtegblhmcfemfgaaGreatDoor
