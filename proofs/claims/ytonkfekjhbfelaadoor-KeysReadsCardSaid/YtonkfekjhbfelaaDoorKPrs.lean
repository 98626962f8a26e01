/- keys.Parse, by its contract. -/
import Derived.Test.YtonkfekjhbfelaaDoorKPts
namespace Go.Proofs.YtonkfekjhbfelaaDoor
open Go.RowKit

theorem splitL_len : ∀ (l : List UInt8), ∀ x ∈ splitL l, x.length ≤ l.length
  | [], x, h => by simp [splitL] at h; simp [h]
  | c :: t, x, h => by
    have ih := splitL_len t
    rw [splitL] at h
    by_cases hc : c = 47
    · rw [if_pos hc] at h
      rcases List.mem_cons.1 h with rfl | h
      · simp
      · have := ih x h; simp; omega
    · rw [if_neg hc] at h
      cases hs : splitL t with
      | nil => rw [hs] at h; simp at h; subst h; simp
      | cons p ps =>
        rw [hs] at h ih
        rcases List.mem_cons.1 h with rfl | h
        · have := ih p (by simp); simp; omega
        · have := ih x (by simp [h]); simp; omega
theorem numF_range (s : List UInt8) : -1 ≤ numF s ∧ numF s ≤ 999999 := by
  unfold numF
  split
  · next h =>
    have := valL_lt 6 s h.1 h.2
    have e6 : (10 : Nat) ^ 6 = 1000000 := by decide
    omega
  · omega
theorem unhexF_len (c : List UInt8) : (unhexF c).length ≤ c.length := by
  unfold unhexF
  split
  · rw [unhexK_length]; omega
  · simp
/-- Parts of texts of at most n bytes. -/
def PaLe (p : Pa) (n : Nat) : Prop := p.u.length ≤ n ∧ p.f.length ≤ n ∧ p.n.length ≤ n ∧ p.g.length ≤ n ∧ -1 ≤ p.i ∧ p.i ≤ 999999
theorem pa0_le (n : Nat) : PaLe pa0 n := by simp [PaLe, pa0]
theorem threeF_le (a b c : List UInt8) (n : Nat) (hb : b.length ≤ n) (hc : c.length ≤ n) : PaLe (threeF a b c) n := by
  have h1 := numF_range c
  have h2 := unhexF_len c
  unfold threeF
  repeat' split
  all_goals first | exact pa0_le n | (simp only [PaLe, List.length_nil]; omega)
theorem partsF_le : ∀ (L : List (List UInt8)) (n : Nat), (∀ x ∈ L, x.length ≤ n) → PaLe (partsF L) n
  | [], n, _ => pa0_le n
  | [_], n, _ => pa0_le n
  | [a, b], n, h => by
    have hb := h b (by simp)
    show PaLe (if a = [102] then _ else pa0) n
    split
    · simp only [PaLe, List.length_nil]; omega
    · exact pa0_le n
  | [a, b, c], n, h => threeF_le a b c n (h b (by simp)) (h c (by simp))
  | [a, b, c, d], n, h => by
    have hb := h b (by simp)
    have hc := h c (by simp)
    have hd := numF_range d
    show PaLe (if a = [114] then _ else pa0) n
    split
    · simp only [PaLe, List.length_nil]; omega
    · exact pa0_le n
  | _ :: _ :: _ :: _ :: _ :: _, n, _ => pa0_le n
abbrev keyP (p : Pa) : List UInt8 := keyL p.k p.u p.f p.n p.g p.i
/-- The parts whose key it is; whether there are such. -/
noncomputable def parF (l : List UInt8) : Pa := if keyP (partsF (splitL l)) = l then partsF (splitL l) else pa0
def okF (l : List UInt8) : Prop := l ≠ [] ∧ keyP (partsF (splitL l)) = l
theorem pk_up {W w' : World} {b : Nat} {k i : Int} {u f n g : List UInt8} (h : PK W b k u f n g i) (hb : Below W.heap.size W w') : PK w' b k u f n g i := h.below hb h.lt
set_option maxHeartbeats 2000000 in
theorem parse_any (l : List UInt8) (w : World) (hl : l.length ≤ 100000) :
    Calls Tryd.prog 7 #[str l] w fun e w' => ((okF l ∧ e = .returned (.tuple #[pa (partsF (splitL l)), .bool true])) ∨ (¬ okF l ∧ e = .returned (.tuple #[pa pa0, .bool false]))) ∧ Below w.heap.size w w' := by
  obtain ⟨W, hW⟩ : ∃ W, W = w.alloc (.cells #[.int .i64 0, str [], str [], str [], str [], .int .i64 0] 23) := ⟨_, rfl⟩
  have HB : Hid (Below w.heap.size w W) := Lib.hid (by rw [hW]; exact below_alloc w _)
  have HP := PK.made w 0 [] [] [] [] 0 23
  rw [← hW] at HP
  have HP := Lib.hid HP
  have CS := Lib.hid (split_any l W hl)
  have hle := splitL_len l
  obtain ⟨L, hL⟩ : ∃ L, L = splitL l := ⟨_, rfl⟩
  have HOK := Lib.hid (show okF l ↔ (l ≠ [] ∧ keyP (partsF L) = l) by rw [hL]; exact Iff.rfl)
  rw [← hL] at CS hle ⊢
  have CP := Lib.hid (fun v w hv => parts_any L v w hv (fun x hx => Nat.le_trans (hle x hx) hl))
  have hpl := partsF_le L l.length hle
  obtain ⟨p, hp⟩ : ∃ p, p = partsF L := ⟨_, rfl⟩
  rw [← hp] at CP hpl HOK ⊢
  clear hp hle hL
  obtain ⟨pk, pu, pf, pn, pg, pi⟩ := p
  obtain ⟨l1, l2, l3, l4, l5, l6⟩ := hpl
  dsimp only at l1 l2 l3 l4 l5 l6
  have CK := Lib.hid (fun W => pkey_any pk pu pf pn pg pi W ⟨by omega, by omega⟩ (by omega) (by omega) (by omega) (by omega))
  obtain ⟨K, hK⟩ : ∃ K, K = keyL pk pu pf pn pg pi := ⟨_, rfl⟩
  have HOK : Hid (okF l ↔ (l ≠ [] ∧ K = l)) := Lib.hid (by rw [hK]; exact HOK.out)
  rw [← hK] at CK
  clear hK l1 l2 l3 l4 l5 l6 hl
  go_enter Tryd.func7, Tryd.ntmps7
  go_wp2_with fail
  simp only [← hW]
  clear hW
  refine CS.out.mono ?_
  rintro e w1 ⟨v, rfl, hv, hb1⟩
  have hrv := RdV.of_row (by simpa using hv : w1.ownsRow W.heap.size 9 1 v (L.map str).length (L.map str))
  have HP1 := Lib.hid (pk_up HP.out hb1)
  have HB1 := Lib.hid (HB.out.trans (hb1.mono HB.out.size))
  have hex : ∃ va vc, v = .slice va L.length vc := by
    obtain ⟨va, vc, h, _⟩ := hrv
    exact ⟨va, vc, by rw [List.length_map] at h; exact h⟩
  obtain ⟨va, vc, rfl⟩ := hex
  have CP1 := Lib.hid (CP.out _ w1 hrv)
  clear hv hb1 CS CP HP HB hrv
  go_wp2_with fail
  refine CP1.out.mono ?_
  rintro e w2 ⟨rfl, hb2⟩
  have HP2 := Lib.hid (pk_up HP1.out hb2)
  have HB2 := Lib.hid (HB1.out.trans (hb2.mono HB1.out.size))
  clear CP1 HP1 HB1 hb2
  by_cases h0 : l = []
  · have hno : ¬ okF l := fun h => (HOK.out.1 h).1 h0
    have HNO := Lib.hid hno
    subst h0
    clear hno HOK
    obtain ⟨z0, z1, z2, z3, z4, z5⟩ := (pk_up HP2.out (below_alloc w2 (.cells #[.int .i64 pk, str pu, str pf, str pn, str pg, .int .i64 pi] 23))).cs
    obtain ⟨y0, y1, y2, y3, y4, y5⟩ := (pk_up HP2.out (below_alloc w2 (.cells #[.int .i64 pk, str pu, str pf, str pn, str pg, .int .i64 pi] 23))).frs
    go_wp2_with fail
    have hBN := below_set6 ((HB2.out).alloc HB2.out.size (.cells #[.int .i64 pk, str pu, str pf, str pn, str pg, .int .i64 pi] 23)) (Nat.le_refl w.heap.size) 0 [] [] [] [] 0
    refine bodyPost_ret (v := .tuple #[pa pa0, .bool false]) (by simp [results, Tryd.results7, go_sem, z0, z1, z2, z3, z4, z5, pa0]) rfl ⟨.inr ⟨HNO.out, rfl⟩, ?_⟩
    exact hBN
  · have t0 := ne_beq h0
    have HQ3 := Lib.hid (PK.made w2 pk pu pf pn pg pi 23)
    have HP3 := Lib.hid (pk_up HP2.out (below_alloc w2 (.cells #[.int .i64 pk, str pu, str pf, str pn, str pg, .int .i64 pi] 23)))
    have HB3 := Lib.hid ((HB2.out).alloc HB2.out.size (.cells #[.int .i64 pk, str pu, str pf, str pn, str pg, .int .i64 pi] 23))
    have HNE := Lib.hid h0
    clear h0 HP2
    go_wp2_with fail
    refine (CK.out _).mono ?_
    rintro e w4 ⟨rfl, hb4⟩
    have HQ4 := Lib.hid (pk_up HQ3.out hb4)
    have HP4 := Lib.hid (pk_up HP3.out hb4)
    have HB4 := Lib.hid (HB3.out.trans (hb4.mono HB3.out.size))
    clear HQ3 HP3 HB3 hb4 CK
    obtain ⟨y0, y1, y2, y3, y4, y5⟩ := HP4.out.frs
    obtain ⟨z0, z1, z2, z3, z4, z5⟩ := HP4.out.cs
    by_cases hk : K = l
    · have HYES := Lib.hid (HOK.out.2 ⟨HNE.out, hk⟩)
      have t1 : (K == l) = true := by rw [hk]; simp
      obtain ⟨q0, q1, q2, q3, q4, q5⟩ := HQ4.out.cs
      have hBN := below_set6 HB4.out (Nat.le_refl _) pk pu pf pn pg pi
      have HBN := Lib.hid hBN
      clear hk HOK HQ4 HP4 hBN
      go_wp2_with fail
      refine bodyPost_ret (v := .tuple #[pak pk pu pf pn pg pi, .bool true]) (by simp [results, Tryd.results7, go_sem, z0, z1, z2, z3, z4, z5]) rfl ⟨.inl ⟨HYES.out, rfl⟩, ?_⟩
      exact HBN.out
    · have HNO := Lib.hid (show ¬ okF l from fun h => hk (HOK.out.1 h).2)
      have t1 := ne_beq hk
      have HBN := Lib.hid (below_set6 HB4.out (Nat.le_refl _) 0 [] [] [] [] 0)
      clear hk HOK HQ4 HP4
      go_wp2_with fail
      refine bodyPost_ret (v := .tuple #[pa pa0, .bool false]) (by simp [results, Tryd.results7, go_sem, z0, z1, z2, z3, z4, z5, pa0]) rfl ⟨.inr ⟨HNO.out, rfl⟩, ?_⟩
      exact HBN.out
end Go.Proofs.YtonkfekjhbfelaaDoor
