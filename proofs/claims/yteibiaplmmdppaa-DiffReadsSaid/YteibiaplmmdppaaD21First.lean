/- hbllaw21.first. -/
import Derived.Test.YteibiaplmmdppaaD21Math
import Derived.Test.YteibiaplmmdppaaD21Ranged
import Derived.Test.YteibiaplmmdppaaD21Chg
namespace Go.Proofs.Yteibiaplmmdppaa
open Go.RowKit

/-- Changes ranged over. -/
theorem ranged_of {w : World} {ba bb b1 b2 : Nat} {ta tb : Tr} {L : List ChgT} (h : OfPSS w b1 b2 ta tb) (ca : w.cell? ⟨ba, 0, none⟩ = some (.pointer (some ⟨b1, 0, none⟩))) (cb : w.cell? ⟨bb, 0, none⟩ = some (.pointer (some ⟨b2, 0, none⟩)))
    (hL : chgLSS ta tb = L.map encC) (hlen : L.length ≤ 1000000) (n : Int) (h1 : 1 ≤ n) : ∀ W, Below w.heap.size w W → Calls Try.prog 14 #[.func (.func 33) #[] #[.pointer (some ⟨ba, 0, none⟩), .pointer (some ⟨bb, 0, none⟩)], .int .i64 n] W (RangedP W (L.take n.toNat)) := by
  intro W hW
  refine ranged_any (Ok := fun X => Below w.heap.size w X) n h1 hlen (enters_of Try.func33 (by kernel_rfl) rfl) (fun X hX => hW.trans (hX.mono hW.size)) (fun W' hW' => ?_)
  rw [← hL]
  exact of1SS_seqs h ca cb (hW.trans (hW'.mono hW.size)) (by decide) (by decide) (by decide) (by decide) (by decide)
theorem rangedP_rd {w : World} {L : List ChgT} {e : Ending} {w' : World} (h : RangedP w L e w') : ∃ v, e = .returned v ∧ RdC w' v L ∧ Below w.heap.size w w' := by
  obtain ⟨v, he, hr, hb⟩ := h
  exact ⟨v, he, RdF.of_row (cellsC_len L) (by simpa using hr), hb⟩
set_option maxHeartbeats 4000000 in
theorem d21first_any (w : World) : Calls Try.prog 8 #[] w fun e w' => e = .returned (.bool true) ∧ Below w.heap.size w w' := by
  have hl1 : RdP (w.alloc (.cells #[str [97], str [49], str [98], str [50]] 61)) (.slice (some ⟨w.heap.size, 0, none⟩) 2 2) [([97], [49]), ([98], [50])] :=
    RdF.lit _ (cellsP_len _) (heap_alloc_new w _) rfl (by simp)
  have hB1 := below_alloc w (.cells #[str [97], str [49], str [98], str [50]] 61)
  have C1 := Lib.hid (map_any _ _ _ hl1 (by simp))
  have HB1 := Lib.hid hB1
  clear hl1 hB1
  go_enter Try.func8, Try.ntmps8
  go_wp2_with fail
  refine C1.out.mono ?_
  rintro e w1 ⟨b1, rfl, _, hm1, hb1⟩
  have hl2 : RdP (w1.alloc (.cells #[str [98], str [51]] 61)) (.slice (some ⟨w1.heap.size, 0, none⟩) 1 1) [([98], [51])] :=
    RdF.lit _ (cellsP_len _) (heap_alloc_new w1 _) rfl (by simp)
  have hB2 := below_alloc w1 (.cells #[str [98], str [51]] 61)
  have C2 := Lib.hid (map_any _ _ _ hl2 (by simp))
  have H1 := Lib.hid (And.intro (hm1.below hB2) ((HB1.out.trans (hb1.mono HB1.out.size)).trans (hB2.mono (HB1.out.trans (hb1.mono HB1.out.size)).size)))
  clear hl2 hB2 hm1 hb1 HB1 C1
  go_wp2_with fail
  refine C2.out.mono ?_
  rintro e w2 ⟨b2, rfl, _, hm2, hb2⟩
  obtain ⟨ta, hta, hpa⟩ := H1.out.1.below hb2
  obtain ⟨tb, htb, hpb⟩ := hm2
  have C3 := Lib.hid (ofSS_any (.pointer (some ⟨b1, 0, none⟩)) (.pointer (some ⟨b2, 0, none⟩)) ta tb w2 (.inl ⟨b1, rfl, hta.mp⟩) (.inl ⟨b2, rfl, htb.mp⟩))
  have hL : chgLSS ta tb = [([97], [], true), ([98], [51], false)].map encC := by rw [chgL_prs hta.ws htb.ws hta.rs htb.rs, hpa, hpb]; exact first_chg
  have H2 := Lib.hid (And.intro hta (And.intro htb (And.intro hL (H1.out.2.trans (hb2.mono H1.out.2.size)))))
  clear hta htb hpa hpb hb2 hL H1 C2
  go_wp2_with fail
  refine C3.out.mono ?_
  rintro e w3 ⟨ba, bb, c1, c2, rfl, g1, g2, g3, g4, hb3⟩
  obtain ⟨hta, htb, hL, hbW⟩ := H2.out
  have C4 := Lib.hid (ranged_of (ofP_of g1 g2 hta htb (by simp) (by simp)) g3 g4 hL (by simp) 9 (by decide) w3 (Below.refl _ _))
  have H3 := Lib.hid (hbW.trans (hb3.mono hbW.size))
  clear g1 g2 g3 g4 hb3 hta htb hL hbW H2 C3
  go_wp2_with fail
  refine C4.out.mono ?_
  intro e w4 h4
  obtain ⟨v, rfl, hr, hb4⟩ := rangedP_rd h4
  have C5 := Lib.hid (changes_any v _ w4 hr (by simp))
  have H4 := Lib.hid (H3.out.trans (hb4.mono H3.out.size))
  clear h4 hr hb4 H3 C4
  go_wp2_with fail
  refine C5.out.mono ?_
  rintro e w5 ⟨u, rfl, hr5, hb5⟩
  have hB5 := below_alloc w5 (.cells #[str [97], str [], .bool true, str [98], str [51], .bool false] 31)
  have hl5 : RdC (w5.alloc (.cells #[str [97], str [], .bool true, str [98], str [51], .bool false] 31)) (.slice (some ⟨w5.heap.size, 0, none⟩) 2 2) [([97], [], true), ([98], [51], false)] :=
    RdF.lit _ (cellsC_len _) (heap_alloc_new w5 _) rfl (by simp)
  have hr6 : RdC (w5.alloc (.cells #[str [97], str [], .bool true, str [98], str [51], .bool false] 31)) u [([97], [], true), ([98], [51], false)] := RdF.below hr5 hB5 (Nat.le_refl _)
  have C6 := Lib.hid (samechg_any _ _ _ _ hr6 hl5)
  have H5 := Lib.hid ((H4.out.trans (hb5.mono H4.out.size)).trans (hB5.mono (H4.out.trans (hb5.mono H4.out.size)).size))
  clear hr5 hb5 hB5 hl5 hr6 C5 H4
  go_wp2_with fail
  refine C6.out.mono ?_
  rintro e w6 ⟨rfl, hb6⟩
  go_wp2_with fail
  go_ret
  exact ⟨rfl, H5.out.trans (hb6.mono H5.out.size)⟩
end Go.Proofs.Yteibiaplmmdppaa
