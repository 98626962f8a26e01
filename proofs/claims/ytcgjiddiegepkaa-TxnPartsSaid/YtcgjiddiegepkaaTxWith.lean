/- hbllaw12.with: pairs with a key's value, or without it. -/
import Derived.Test.YtcgjiddiegepkaaTxSeesM
import Derived.Deep.CutRange
import Derived.Deep.CutBlock
namespace Go.Proofs.Ytcgjiddiegepkaa
open Go.RowKit
theorem one_cellsPr (l : List PairT) : ∀ u ∈ (l.map cellsP).flatten, u.oneCell' = true := by
  intro u hu
  obtain ⟨r, hr, hu⟩ := List.mem_flatten.1 hu
  obtain ⟨p, _, rfl⟩ := List.mem_map.1 hr
  simp only [cellsP, List.mem_cons, List.not_mem_nil, or_false] at hu
  rcases hu with rfl | rfl <;> rfl
theorem ite_noneP {g p cap n m c : Nat} (h : (Value.slice (if cap = p then (some ⟨g, 0, none⟩ : Option Addr) else some ⟨g, p * 2, none⟩) n m) = .slice none 0 c) : c = 0 := by
  split at h <;> simp at h
theorem rdp_ownP {W : World} {base : Nat} {v : Value} {l : List PairT} (h : W.ownsRow base 63 2 v l.length (l.map cellsP).flatten) : RdP W v l :=
  RdF.of_row (fun r hr => by obtain ⟨y, _, rfl⟩ := List.mem_map.1 hr; rfl) (by simpa using h)
/-- A new row of pairs. -/
def WI (w W : World) (g c : Nat) (M : List PairT) : Prop := W.ownsRow w.heap.size 63 2 (.slice (some ⟨g, 0, none⟩) M.length c) M.length (M.map cellsP).flatten ∧ Below w.heap.size w W ∧ w.heap.size ≤ g
theorem wi_first {w W : World} {g c : Nat} {M : List PairT} {o : Obj} (h : W.ownsRow w.heap.size 63 2 (.slice (some ⟨g, 0, none⟩) (0 + (M.map cellsP).length) c) (0 + (M.map cellsP).length) ([] ++ (M.map cellsP).flatten)) (hg : (w.alloc o).grownBy W (some w.heap.size)) : WI w W g c M := by
  rw [List.length_map, Nat.zero_add, List.nil_append] at h
  exact ⟨h, ((Below.refl _ w).alloc (Nat.le_refl _) _).grown hg (by simp) (fun k e => by cases e; exact Nat.le_refl _), (h.lt g rfl).1⟩
theorem wi_app {w W W' : World} {g c g' c' : Nat} {M K N : List PairT} (h : WI w W g c M) (hN : N = M ++ K) (hr : W'.ownsRow w.heap.size 63 2 (.slice (some ⟨g', 0, none⟩) (M.length + (K.map cellsP).length) c') (M.length + (K.map cellsP).length) ((M.map cellsP).flatten ++ (K.map cellsP).flatten)) (hg : W.grownBy W' (some g)) : WI w W' g' c' N := by
  subst hN
  refine ⟨?_, h.2.1.grown hg h.2.1.size (fun k e => by cases e; exact h.2.2), (hr.lt g' rfl).1⟩
  rw [List.length_append, List.map_append, List.flatten_append]
  rwa [List.length_map] at hr
theorem wi_appA {w W W' : World} {g c g' c' : Nat} {M K N : List PairT} {o : Obj} (h : WI w W g c M) (hN : N = M ++ K) (hr : W'.ownsRow w.heap.size 63 2 (.slice (some ⟨g', 0, none⟩) (M.length + (K.map cellsP).length) c') (M.length + (K.map cellsP).length) ((M.map cellsP).flatten ++ (K.map cellsP).flatten)) (hg : (W.alloc o).grownBy W' (some g)) : WI w W' g' c' N :=
  wi_app (W := W.alloc o) ⟨World.ownsRow.alloc h.1 _, h.2.1.trans ((below_alloc W o).mono h.2.1.size), h.2.2⟩ hN hr hg
def WithP (w : World) (l : List PairT) (key v : List UInt8) (gone : Bool) (e : Ending) (w' : World) : Prop := ∃ vo p has, e = .returned vo ∧ PlaceB key l p ∧ has = (if (∃ h : p < l.length, l[p].1 = key) then 1 else 0) ∧ w'.ownsRow w.heap.size 63 2 vo (withP l key v gone p has).length ((withP l key v gone p has).map cellsP).flatten ∧ Below w.heap.size w w'
theorem place_atP {l : List PairT} {key : List UInt8} (hr : RisB l) {p : Nat} (hp : p ≤ l.length) (h1 : ∀ j (h : j < l.length), j < p → Op.bytesLess l[j].1 key = true) (h2 : ∀ h : p < l.length, Op.bytesLess l[p].1 key = false) : PlaceB key l p := by
  refine ⟨hp, h1, fun j h hj => ?_⟩
  have hp' : p < l.length := by omega
  by_cases e : j = p
  · subst e; exact h2 hp'
  · cases h3 : Op.bytesLess l[j].1 key with
    | false => rfl
    | true =>
      have := bl_tr _ _ _ ((List.pairwise_iff_getElem.1 hr) p j hp' h (by omega)) h3
      rw [h2 hp'] at this; cases this
set_option maxRecDepth 100000 in
set_option maxHeartbeats 8000000 in
theorem with_none (key v : List UInt8) (gone : Bool) (w : World) : Calls Try.prog 37 #[.slice none 0 0, str key, str v, .bool gone] w (WithP w [] key v gone) := by
  obtain ⟨i0, hi, hz0, hz1, hz2⟩ := info_parts infoPair
  have HP : Hid (PlaceB key ([] : List PairT) 0) := Lib.hid ⟨Nat.le_refl _, fun _ h => absurd h (by simp), fun _ h => absurd h (by simp)⟩
  have HHAS : Hid (0 = (if (∃ h : 0 < ([] : List PairT).length, ([] : List PairT)[0].1 = key) then 1 else 0)) := Lib.hid (by rw [if_neg (by rintro ⟨h, _⟩; simp at h)])
  go_enter Try.func37, Try.ntmps37
  go_wp2_with fail
  go_loopw [9] (fun kv wr => kv = .int .i64 0 ∧ w = wr) (fun _ _ => 0)
  case atStart => exact ⟨rfl, rfl⟩
  case round =>
    obtain ⟨rfl, rfl⟩ := hrel
    cases gone with
    | true =>
      go_wp2_with (at_builtin; refine hold ?_)
      intro _
      refine wpList_appendG (by rfl) _ _ 43 (by rfl) w.heap.size 63 i0 _ 2 32 Try.underlying43 hi hz0 hz1 hz2 rfl (by decide) w.heap.size 0 0 [] (by rfl) (World.ownsRow_lit (e := 63) (size := 2) w #[] 0 (Nat.le_refl _) (by decide) rfl) (.slice none 0 0) (([] : List PairT).map cellsP) (cellsP_len _) (one_cellsPr _) (by rfl) ⟨none, 0, rfl, by simp, by simp, by simp, fun h => absurd rfl h⟩ (fun c h => by cases h; rfl) ?_ ?_ ?_ ?_
      · simp [maxLen]
      · simp
      · simp
      intro g7 c7 w7 r7 gr7
      obtain ⟨M7, hM7⟩ : ∃ M, M = ([] : List PairT) := ⟨_, rfl⟩
      rw [← hM7] at r7 ⊢
      have HM7 := Lib.hid (And.intro hM7 (show M7.length ≤ 100000 by rw [hM7]; simp))
      clear hM7
      have H7 := Lib.hid (wi_first r7 gr7)
      rw [Nat.zero_add, List.length_map]
      clear r7 gr7
      go_wp2_with (at_builtin; refine hold ?_)
      intro _
      refine wpList_appendG (by rfl) _ _ 43 (by rfl) w.heap.size 63 i0 _ 2 32 Try.underlying43 hi hz0 hz1 hz2 rfl (by decide) g7 c7 M7.length _ (by rfl) H7.out.1 (.slice none 0 0) (([] : List PairT).map cellsP) (cellsP_len _) (one_cellsPr _) (by rfl) ⟨none, 0, rfl, by simp, by simp, by simp, fun h => absurd rfl h⟩ (fun c h => by cases h; rfl) ?_ ?_ ?_ ?_
      · have := HM7.out.2; simp [maxLen]; omega
      · have := HM7.out.2; simp; omega
      · have := H7.out.2.1.size; exact this
      intro g10 c10 w10 r gr
      obtain ⟨M10, hM⟩ : ∃ M, M = M7 ++ ([] : List PairT) := ⟨_, rfl⟩
      have H10 := Lib.hid (wi_app H7.out hM r gr)
      rw [show M7.length + (List.map cellsP ([] : List PairT)).length = M10.length by rw [hM, List.length_append, List.length_map]]
      have HM10 := Lib.hid (And.intro hM (show M10.length ≤ 200002 by rw [hM, List.length_append]; have := HM7.out.2; simp; omega))
      clear hM r gr
      have HE : Hid (M10 = withP [] key v true 0 0) := Lib.hid (by rw [HM10.out.1, HM7.out.1]; unfold withP; simp)
      go_wp2_with fail
      go_ret
      exact ⟨_, 0, 0, rfl, HP.out, HHAS.out, by rw [← HE.out]; exact H10.out.1, H10.out.2.1⟩
    | false =>
      go_wp2_with (at_builtin; refine hold ?_)
      intro _
      refine wpList_appendG (by rfl) _ _ 43 (by rfl) w.heap.size 63 i0 _ 2 32 Try.underlying43 hi hz0 hz1 hz2 rfl (by decide) w.heap.size 0 0 [] (by rfl) (World.ownsRow_lit (e := 63) (size := 2) w #[] 0 (Nat.le_refl _) (by decide) rfl) (.slice none 0 0) (([] : List PairT).map cellsP) (cellsP_len _) (one_cellsPr _) (by rfl) ⟨none, 0, rfl, by simp, by simp, by simp, fun h => absurd rfl h⟩ (fun c h => by cases h; rfl) ?_ ?_ ?_ ?_
      · simp [maxLen]
      · simp
      · simp
      intro g7 c7 w7 r7 gr7
      obtain ⟨M7, hM7⟩ : ∃ M, M = ([] : List PairT) := ⟨_, rfl⟩
      rw [← hM7] at r7 ⊢
      have HM7 := Lib.hid (And.intro hM7 (show M7.length ≤ 100000 by rw [hM7]; simp))
      clear hM7
      have H7 := Lib.hid (wi_first r7 gr7)
      rw [Nat.zero_add, List.length_map]
      clear r7 gr7
      go_wp2_with (at_builtin; refine hold ?_)
      intro _
      refine wpList_appendG (by rfl) _ _ 43 (by rfl) w.heap.size 63 i0 _ 2 32 Try.underlying43 hi hz0 hz1 hz2 rfl (by decide) g7 c7 M7.length _ (by rfl) (World.ownsRow.alloc H7.out.1 _) (.slice (some ⟨w7.heap.size, 0, none⟩) 1 1) [cellsP (key, v)] (by simp [cellsP]) (by simp [cellsP, Value.oneCell']) (by rfl) (RdF.lit [cellsP (key, v)] (by simp [cellsP]) (heap_alloc_new _ _) rfl (by simp)) (fun c h => by cases h) ?_ ?_ ?_ ?_
      · have := HM7.out.2; simp [maxLen]; omega
      · have := HM7.out.2; simp; omega
      · have := H7.out.2.1.size; simp; omega
      intro g9 c9 w9 r gr
      obtain ⟨M9, hM⟩ : ∃ M, M = M7 ++ [(key, v)] := ⟨_, rfl⟩
      have H9 := Lib.hid (wi_appA H7.out hM r gr)
      rw [show M7.length + [cellsP (key, v)].length = M9.length by rw [hM, List.length_append]; rfl]
      have HM9 := Lib.hid (And.intro hM (show M9.length ≤ 100001 by rw [hM, List.length_append]; have := HM7.out.2; simp; omega))
      clear hM r gr
      go_wp2_with (at_builtin; refine hold ?_)
      intro _
      refine wpList_appendG (by rfl) _ _ 43 (by rfl) w.heap.size 63 i0 _ 2 32 Try.underlying43 hi hz0 hz1 hz2 rfl (by decide) g9 c9 M9.length _ (by rfl) H9.out.1 (.slice none 0 0) (([] : List PairT).map cellsP) (cellsP_len _) (one_cellsPr _) (by rfl) ⟨none, 0, rfl, by simp, by simp, by simp, fun h => absurd rfl h⟩ (fun c h => by cases h; rfl) ?_ ?_ ?_ ?_
      · have := HM9.out.2; simp [maxLen]; omega
      · have := HM9.out.2; simp; omega
      · have := H9.out.2.1.size; exact this
      intro g10 c10 w10 r gr
      obtain ⟨M10, hM⟩ : ∃ M, M = M9 ++ ([] : List PairT) := ⟨_, rfl⟩
      have H10 := Lib.hid (wi_app H9.out hM r gr)
      rw [show M9.length + (List.map cellsP ([] : List PairT)).length = M10.length by rw [hM, List.length_append, List.length_map]]
      have HM10 := Lib.hid (And.intro hM (show M10.length ≤ 200002 by rw [hM, List.length_append]; have := HM9.out.2; simp; omega))
      clear hM r gr
      have HE : Hid (M10 = withP [] key v false 0 0) := Lib.hid (by rw [HM10.out.1, HM9.out.1, HM7.out.1]; unfold withP; simp)
      go_wp2_with fail
      go_ret
      exact ⟨_, 0, 0, rfl, HP.out, HHAS.out, by rw [← HE.out]; exact H10.out.1, H10.out.2.1⟩
set_option maxRecDepth 100000 in
set_option maxHeartbeats 16000000 in
theorem with_some (g cap : Nat) (l : List PairT) (key v : List UInt8) (gone : Bool) (w : World) {base : Nat} (h : w.ownsRow base 63 2 (.slice (some ⟨g, 0, none⟩) l.length cap) l.length (l.map cellsP).flatten) (hr : RisB l) (hl : l.length ≤ 100000) :
    Calls Try.prog 37 #[.slice (some ⟨g, 0, none⟩) l.length cap, str key, str v, .bool gone] w (WithP w l key v gone) := by
  obtain ⟨i0, hi, hz0, hz1, hz2⟩ := info_parts infoPair
  have HRI := Lib.hid hr
  have hcap : l.length ≤ cap := (row_cap h).2.1
  have HRD : Hid (RdP w (.slice (some ⟨g, 0, none⟩) l.length cap) l) := Lib.hid (rdp_ownP h)
  have HTK : Hid (∀ p, p ≤ l.length → RdP w (.slice (some ⟨g, 0, none⟩) p cap) (l.take p)) := Lib.hid (fun p hp => RdP.take (rdp_ownP h) p hp)
  have HBH : Hid (∀ p, p ≤ l.length → RdF 2 w (.slice (if cap = p then (some ⟨g, 0, none⟩ : Option Addr) else some ⟨g, p * 2, none⟩) (l.length - p) (cap - p)) ((l.drop p).map cellsP)) := Lib.hid (fun p hp => by
    have := rdf_behind (sz := 2) (p := p) (cellsP_len l) (by simpa using h) (by simpa using hp) rfl
    simpa [List.map_drop] using this)
  have HCE : Hid (∀ p (hp : p < l.length), w.cell? ⟨g, p * 2, none⟩ = some (str l[p].1)) := Lib.hid (fun p hp => by
    obtain ⟨b, off, he, c0, _⟩ := RdP.get (rdp_ownP h) hp
    simp only [Option.some.injEq, Addr.mk.injEq, and_true] at he
    obtain ⟨rfl, rfl⟩ := he
    rwa [Nat.zero_add] at c0)
  clear h hr
  go_enter Try.func37, Try.ntmps37
  go_wp2_with fail
  go_loopw [9] (fun kv wr => ∃ p : Nat, p ≤ l.length ∧ kv = .int .i64 (p : Int) ∧ Hid (∀ j (h : j < l.length), j < p → Op.bytesLess l[j].1 key = true) ∧ w = wr) (fun kv _ => l.length - (intOf kv).toNat)
  case atStart => exact ⟨0, Nat.zero_le _, rfl, Lib.hid (fun _ _ h => absurd h (by omega)), rfl⟩
  case round =>
    obtain ⟨p, hpl, rfl, HLO, rfl⟩ := hrel
    have hpc : p ≤ cap := by omega
    by_cases hlt : p < l.length
    · have g5 : decide ((p : Int) < (l.length : Int)) = true := decide_eq_true (by omega)
      have g5' : (p : Int) < (l.length : Int) := by omega
      have g6 : (0 : Int) ≤ (p : Int) := by omega
      have c0 := HCE.out p hlt
      obtain ⟨yk, hyk⟩ : ∃ yk, yk = l[p].1 := ⟨_, rfl⟩
      have HYK := Lib.hid hyk
      rw [← hyk] at c0
      clear hyk
      cases hlk : Op.bytesLess yk key with
      | true =>
        have HN : Hid (∀ j (h : j < l.length), j < p + 1 → Op.bytesLess l[j].1 key = true) := Lib.hid (fun j h hj => by
          by_cases e : j = p
          · subst e; rw [← HYK.out]; exact hlk
          · exact HLO.out j h (by omega))
        clear HLO HYK
        go_wp2_with fail
        go_roundw
        case rel => exact ⟨p + 1, by omega, by go_num, HN, by first | rfl | trivial⟩
        case measure => simp [intOf]; omega
      | false =>
        have HP : Hid (PlaceB key l p) := Lib.hid (place_atP HRI.out hpl HLO.out (fun h => by rw [← HYK.out]; exact hlk))
        obtain ⟨z, hz⟩ : ∃ z, z = (yk == key) := ⟨_, rfl⟩
        have hzz := hz.symm
        cases z
        · have HHAS : Hid (0 = (if (∃ h : p < l.length, l[p].1 = key) then 1 else 0)) := Lib.hid (by
            rw [if_neg]
            rintro ⟨h, e⟩
            rw [← HYK.out] at e
            rw [e, beq_self_eq_true] at hzz
            cases hzz)
          have HBQ : Hid (∀ n m, n = l.length - (p) → m = cap - (p) → RdF 2 w (.slice (some ⟨g, p * 2, none⟩) n m) ((l.drop (p)).map cellsP)) := Lib.hid (by rintro n m rfl rfl; have := HBH.out p hpl; rwa [if_neg (by omega)] at this)
          clear HLO HYK hz
          cases gone with
          | true =>
            go_wp2_with (at_builtin; refine hold ?_)
            intro _
            refine wpList_appendG (by rfl) _ _ 43 (by rfl) w.heap.size 63 i0 _ 2 32 Try.underlying43 hi hz0 hz1 hz2 rfl (by decide) w.heap.size 0 0 [] (by rfl) (World.ownsRow_lit (e := 63) (size := 2) w #[] 0 (Nat.le_refl _) (by decide) rfl) _ ((l.take p).map cellsP) (cellsP_len _) (one_cellsPr _) (by rfl) (RdF.below (HTK.out p hpl) (below_alloc w _) (Nat.le_refl _)) (fun c h => by cases h) ?_ ?_ ?_ ?_
            · simp [maxLen]; omega
            · simp; omega
            · simp
            intro g7 c7 w7 r7 gr7
            obtain ⟨M7, hM7⟩ : ∃ M, M = (l.take p) := ⟨_, rfl⟩
            rw [← hM7] at r7 ⊢
            have HM7 := Lib.hid (And.intro hM7 (show M7.length ≤ 100000 by rw [hM7]; simp; omega))
            clear hM7
            have H7 := Lib.hid (wi_first r7 gr7)
            rw [Nat.zero_add, List.length_map]
            clear r7 gr7
            go_wp2_with (at_builtin; refine hold ?_)
            intro _
            refine wpList_appendG (by rfl) _ _ 43 (by rfl) w.heap.size 63 i0 _ 2 32 Try.underlying43 hi hz0 hz1 hz2 rfl (by decide) g7 c7 M7.length _ (by rfl) H7.out.1 _ ((l.drop (p)).map cellsP) (cellsP_len _) (one_cellsPr _) (by rfl) (RdF.below (HBQ.out _ _ (by omega) (by omega)) H7.out.2.1 (Nat.le_refl _)) (fun c h => by cases h) ?_ ?_ ?_ ?_
            · have := HM7.out.2; simp [maxLen]; omega
            · have := HM7.out.2; simp; omega
            · have := H7.out.2.1.size; exact this
            intro g10 c10 w10 r gr
            obtain ⟨M10, hM⟩ : ∃ M, M = M7 ++ (l.drop (p)) := ⟨_, rfl⟩
            have H10 := Lib.hid (wi_app H7.out hM r gr)
            rw [show M7.length + (List.map cellsP (l.drop (p))).length = M10.length by rw [hM, List.length_append, List.length_map]]
            have HM10 := Lib.hid (And.intro hM (show M10.length ≤ 200002 by rw [hM, List.length_append]; have := HM7.out.2; simp; omega))
            clear hM r gr
            have HE : Hid (M10 = withP l key v true p 0) := Lib.hid (by rw [HM10.out.1, HM7.out.1]; unfold withP; simp)
            go_wp2_with fail
            go_ret
            exact ⟨_, p, 0, rfl, HP.out, HHAS.out, by rw [← HE.out]; exact H10.out.1, H10.out.2.1⟩
          | false =>
            go_wp2_with (at_builtin; refine hold ?_)
            intro _
            refine wpList_appendG (by rfl) _ _ 43 (by rfl) w.heap.size 63 i0 _ 2 32 Try.underlying43 hi hz0 hz1 hz2 rfl (by decide) w.heap.size 0 0 [] (by rfl) (World.ownsRow_lit (e := 63) (size := 2) w #[] 0 (Nat.le_refl _) (by decide) rfl) _ ((l.take p).map cellsP) (cellsP_len _) (one_cellsPr _) (by rfl) (RdF.below (HTK.out p hpl) (below_alloc w _) (Nat.le_refl _)) (fun c h => by cases h) ?_ ?_ ?_ ?_
            · simp [maxLen]; omega
            · simp; omega
            · simp
            intro g7 c7 w7 r7 gr7
            obtain ⟨M7, hM7⟩ : ∃ M, M = (l.take p) := ⟨_, rfl⟩
            rw [← hM7] at r7 ⊢
            have HM7 := Lib.hid (And.intro hM7 (show M7.length ≤ 100000 by rw [hM7]; simp; omega))
            clear hM7
            have H7 := Lib.hid (wi_first r7 gr7)
            rw [Nat.zero_add, List.length_map]
            clear r7 gr7
            go_wp2_with (at_builtin; refine hold ?_)
            intro _
            refine wpList_appendG (by rfl) _ _ 43 (by rfl) w.heap.size 63 i0 _ 2 32 Try.underlying43 hi hz0 hz1 hz2 rfl (by decide) g7 c7 M7.length _ (by rfl) (World.ownsRow.alloc H7.out.1 _) (.slice (some ⟨w7.heap.size, 0, none⟩) 1 1) [cellsP (key, v)] (by simp [cellsP]) (by simp [cellsP, Value.oneCell']) (by rfl) (RdF.lit [cellsP (key, v)] (by simp [cellsP]) (heap_alloc_new _ _) rfl (by simp)) (fun c h => by cases h) ?_ ?_ ?_ ?_
            · have := HM7.out.2; simp [maxLen]; omega
            · have := HM7.out.2; simp; omega
            · have := H7.out.2.1.size; simp; omega
            intro g9 c9 w9 r gr
            obtain ⟨M9, hM⟩ : ∃ M, M = M7 ++ [(key, v)] := ⟨_, rfl⟩
            have H9 := Lib.hid (wi_appA H7.out hM r gr)
            rw [show M7.length + [cellsP (key, v)].length = M9.length by rw [hM, List.length_append]; rfl]
            have HM9 := Lib.hid (And.intro hM (show M9.length ≤ 100001 by rw [hM, List.length_append]; have := HM7.out.2; simp; omega))
            clear hM r gr
            go_wp2_with (at_builtin; refine hold ?_)
            intro _
            refine wpList_appendG (by rfl) _ _ 43 (by rfl) w.heap.size 63 i0 _ 2 32 Try.underlying43 hi hz0 hz1 hz2 rfl (by decide) g9 c9 M9.length _ (by rfl) H9.out.1 _ ((l.drop (p)).map cellsP) (cellsP_len _) (one_cellsPr _) (by rfl) (RdF.below (HBQ.out _ _ (by omega) (by omega)) H9.out.2.1 (Nat.le_refl _)) (fun c h => by cases h) ?_ ?_ ?_ ?_
            · have := HM9.out.2; simp [maxLen]; omega
            · have := HM9.out.2; simp; omega
            · have := H9.out.2.1.size; exact this
            intro g10 c10 w10 r gr
            obtain ⟨M10, hM⟩ : ∃ M, M = M9 ++ (l.drop (p)) := ⟨_, rfl⟩
            have H10 := Lib.hid (wi_app H9.out hM r gr)
            rw [show M9.length + (List.map cellsP (l.drop (p))).length = M10.length by rw [hM, List.length_append, List.length_map]]
            have HM10 := Lib.hid (And.intro hM (show M10.length ≤ 200002 by rw [hM, List.length_append]; have := HM9.out.2; simp; omega))
            clear hM r gr
            have HE : Hid (M10 = withP l key v false p 0) := Lib.hid (by rw [HM10.out.1, HM9.out.1, HM7.out.1]; unfold withP; simp)
            go_wp2_with fail
            go_ret
            exact ⟨_, p, 0, rfl, HP.out, HHAS.out, by rw [← HE.out]; exact H10.out.1, H10.out.2.1⟩
        · have HHAS : Hid (1 = (if (∃ h : p < l.length, l[p].1 = key) then 1 else 0)) := Lib.hid (by
            rw [if_pos ⟨hlt, by rw [← HYK.out]; exact beq_iff_eq.1 hzz⟩])
          have w1 : IntKind.i64.wrap ((p : Int) + 1) = (p : Int) + 1 := IntWalk.i64_in _ ⟨by omega, by omega⟩
          clear HLO HYK hz
          by_cases hq : p + 1 = cap
          · have HBQ : Hid (∀ n m, n = l.length - (p + 1) → m = cap - (p + 1) → RdF 2 w (.slice (some ⟨g, 0, none⟩) n m) ((l.drop (p + 1)).map cellsP)) := Lib.hid (by rintro n m rfl rfl; have := HBH.out (p + 1) (by omega); rwa [if_pos hq.symm] at this)
            subst hq
            cases gone with
            | true =>
              go_wp2_with (at_builtin; refine hold ?_)
              intro _
              refine wpList_appendG (by rfl) _ _ 43 (by rfl) w.heap.size 63 i0 _ 2 32 Try.underlying43 hi hz0 hz1 hz2 rfl (by decide) w.heap.size 0 0 [] (by rfl) (World.ownsRow_lit (e := 63) (size := 2) w #[] 0 (Nat.le_refl _) (by decide) rfl) _ ((l.take p).map cellsP) (cellsP_len _) (one_cellsPr _) (by rfl) (RdF.below (HTK.out p hpl) (below_alloc w _) (Nat.le_refl _)) (fun c h => by cases h) ?_ ?_ ?_ ?_
              · simp [maxLen]; omega
              · simp; omega
              · simp
              intro g7 c7 w7 r7 gr7
              obtain ⟨M7, hM7⟩ : ∃ M, M = (l.take p) := ⟨_, rfl⟩
              rw [← hM7] at r7 ⊢
              have HM7 := Lib.hid (And.intro hM7 (show M7.length ≤ 100000 by rw [hM7]; simp; omega))
              clear hM7
              have H7 := Lib.hid (wi_first r7 gr7)
              rw [Nat.zero_add, List.length_map]
              clear r7 gr7
              go_wp2_with (at_builtin; refine hold ?_)
              intro _
              refine wpList_appendG (by rfl) _ _ 43 (by rfl) w.heap.size 63 i0 _ 2 32 Try.underlying43 hi hz0 hz1 hz2 rfl (by decide) g7 c7 M7.length _ (by rfl) H7.out.1 _ ((l.drop (p + 1)).map cellsP) (cellsP_len _) (one_cellsPr _) (by rfl) (RdF.below (HBQ.out _ _ (by omega) (by omega)) H7.out.2.1 (Nat.le_refl _)) (fun c h => by cases h) ?_ ?_ ?_ ?_
              · have := HM7.out.2; simp [maxLen]; omega
              · have := HM7.out.2; simp; omega
              · have := H7.out.2.1.size; exact this
              intro g10 c10 w10 r gr
              obtain ⟨M10, hM⟩ : ∃ M, M = M7 ++ (l.drop (p + 1)) := ⟨_, rfl⟩
              have H10 := Lib.hid (wi_app H7.out hM r gr)
              rw [show M7.length + (List.map cellsP (l.drop (p + 1))).length = M10.length by rw [hM, List.length_append, List.length_map]]
              have HM10 := Lib.hid (And.intro hM (show M10.length ≤ 200002 by rw [hM, List.length_append]; have := HM7.out.2; simp; omega))
              clear hM r gr
              have HE : Hid (M10 = withP l key v true p 1) := Lib.hid (by rw [HM10.out.1, HM7.out.1]; unfold withP; simp)
              go_wp2_with fail
              go_ret
              exact ⟨_, p, 1, rfl, HP.out, HHAS.out, by rw [← HE.out]; exact H10.out.1, H10.out.2.1⟩
            | false =>
              go_wp2_with (at_builtin; refine hold ?_)
              intro _
              refine wpList_appendG (by rfl) _ _ 43 (by rfl) w.heap.size 63 i0 _ 2 32 Try.underlying43 hi hz0 hz1 hz2 rfl (by decide) w.heap.size 0 0 [] (by rfl) (World.ownsRow_lit (e := 63) (size := 2) w #[] 0 (Nat.le_refl _) (by decide) rfl) _ ((l.take p).map cellsP) (cellsP_len _) (one_cellsPr _) (by rfl) (RdF.below (HTK.out p hpl) (below_alloc w _) (Nat.le_refl _)) (fun c h => by cases h) ?_ ?_ ?_ ?_
              · simp [maxLen]; omega
              · simp; omega
              · simp
              intro g7 c7 w7 r7 gr7
              obtain ⟨M7, hM7⟩ : ∃ M, M = (l.take p) := ⟨_, rfl⟩
              rw [← hM7] at r7 ⊢
              have HM7 := Lib.hid (And.intro hM7 (show M7.length ≤ 100000 by rw [hM7]; simp; omega))
              clear hM7
              have H7 := Lib.hid (wi_first r7 gr7)
              rw [Nat.zero_add, List.length_map]
              clear r7 gr7
              go_wp2_with (at_builtin; refine hold ?_)
              intro _
              refine wpList_appendG (by rfl) _ _ 43 (by rfl) w.heap.size 63 i0 _ 2 32 Try.underlying43 hi hz0 hz1 hz2 rfl (by decide) g7 c7 M7.length _ (by rfl) (World.ownsRow.alloc H7.out.1 _) (.slice (some ⟨w7.heap.size, 0, none⟩) 1 1) [cellsP (key, v)] (by simp [cellsP]) (by simp [cellsP, Value.oneCell']) (by rfl) (RdF.lit [cellsP (key, v)] (by simp [cellsP]) (heap_alloc_new _ _) rfl (by simp)) (fun c h => by cases h) ?_ ?_ ?_ ?_
              · have := HM7.out.2; simp [maxLen]; omega
              · have := HM7.out.2; simp; omega
              · have := H7.out.2.1.size; simp; omega
              intro g9 c9 w9 r gr
              obtain ⟨M9, hM⟩ : ∃ M, M = M7 ++ [(key, v)] := ⟨_, rfl⟩
              have H9 := Lib.hid (wi_appA H7.out hM r gr)
              rw [show M7.length + [cellsP (key, v)].length = M9.length by rw [hM, List.length_append]; rfl]
              have HM9 := Lib.hid (And.intro hM (show M9.length ≤ 100001 by rw [hM, List.length_append]; have := HM7.out.2; simp; omega))
              clear hM r gr
              go_wp2_with (at_builtin; refine hold ?_)
              intro _
              refine wpList_appendG (by rfl) _ _ 43 (by rfl) w.heap.size 63 i0 _ 2 32 Try.underlying43 hi hz0 hz1 hz2 rfl (by decide) g9 c9 M9.length _ (by rfl) H9.out.1 _ ((l.drop (p + 1)).map cellsP) (cellsP_len _) (one_cellsPr _) (by rfl) (RdF.below (HBQ.out _ _ (by omega) (by omega)) H9.out.2.1 (Nat.le_refl _)) (fun c h => by cases h) ?_ ?_ ?_ ?_
              · have := HM9.out.2; simp [maxLen]; omega
              · have := HM9.out.2; simp; omega
              · have := H9.out.2.1.size; exact this
              intro g10 c10 w10 r gr
              obtain ⟨M10, hM⟩ : ∃ M, M = M9 ++ (l.drop (p + 1)) := ⟨_, rfl⟩
              have H10 := Lib.hid (wi_app H9.out hM r gr)
              rw [show M9.length + (List.map cellsP (l.drop (p + 1))).length = M10.length by rw [hM, List.length_append, List.length_map]]
              have HM10 := Lib.hid (And.intro hM (show M10.length ≤ 200002 by rw [hM, List.length_append]; have := HM9.out.2; simp; omega))
              clear hM r gr
              have HE : Hid (M10 = withP l key v false p 1) := Lib.hid (by rw [HM10.out.1, HM9.out.1, HM7.out.1]; unfold withP; simp)
              go_wp2_with fail
              go_ret
              exact ⟨_, p, 1, rfl, HP.out, HHAS.out, by rw [← HE.out]; exact H10.out.1, H10.out.2.1⟩
          · have HBQ : Hid (∀ n m, n = l.length - (p + 1) → m = cap - (p + 1) → RdF 2 w (.slice (some ⟨g, (p + 1) * 2, none⟩) n m) ((l.drop (p + 1)).map cellsP)) := Lib.hid (by rintro n m rfl rfl; have := HBH.out (p + 1) (by omega); rwa [if_neg (fun e => hq e.symm)] at this)
            cases gone with
            | true =>
              go_wp2_with (at_builtin; refine hold ?_)
              intro _
              refine wpList_appendG (by rfl) _ _ 43 (by rfl) w.heap.size 63 i0 _ 2 32 Try.underlying43 hi hz0 hz1 hz2 rfl (by decide) w.heap.size 0 0 [] (by rfl) (World.ownsRow_lit (e := 63) (size := 2) w #[] 0 (Nat.le_refl _) (by decide) rfl) _ ((l.take p).map cellsP) (cellsP_len _) (one_cellsPr _) (by rfl) (RdF.below (HTK.out p hpl) (below_alloc w _) (Nat.le_refl _)) (fun c h => by cases h) ?_ ?_ ?_ ?_
              · simp [maxLen]; omega
              · simp; omega
              · simp
              intro g7 c7 w7 r7 gr7
              obtain ⟨M7, hM7⟩ : ∃ M, M = (l.take p) := ⟨_, rfl⟩
              rw [← hM7] at r7 ⊢
              have HM7 := Lib.hid (And.intro hM7 (show M7.length ≤ 100000 by rw [hM7]; simp; omega))
              clear hM7
              have H7 := Lib.hid (wi_first r7 gr7)
              rw [Nat.zero_add, List.length_map]
              clear r7 gr7
              go_wp2_with (at_builtin; refine hold ?_)
              intro _
              refine wpList_appendG (by rfl) _ _ 43 (by rfl) w.heap.size 63 i0 _ 2 32 Try.underlying43 hi hz0 hz1 hz2 rfl (by decide) g7 c7 M7.length _ (by rfl) H7.out.1 _ ((l.drop (p + 1)).map cellsP) (cellsP_len _) (one_cellsPr _) (by rfl) (RdF.below (HBQ.out _ _ (by omega) (by omega)) H7.out.2.1 (Nat.le_refl _)) (fun c h => by cases h) ?_ ?_ ?_ ?_
              · have := HM7.out.2; simp [maxLen]; omega
              · have := HM7.out.2; simp; omega
              · have := H7.out.2.1.size; exact this
              intro g10 c10 w10 r gr
              obtain ⟨M10, hM⟩ : ∃ M, M = M7 ++ (l.drop (p + 1)) := ⟨_, rfl⟩
              have H10 := Lib.hid (wi_app H7.out hM r gr)
              rw [show M7.length + (List.map cellsP (l.drop (p + 1))).length = M10.length by rw [hM, List.length_append, List.length_map]]
              have HM10 := Lib.hid (And.intro hM (show M10.length ≤ 200002 by rw [hM, List.length_append]; have := HM7.out.2; simp; omega))
              clear hM r gr
              have HE : Hid (M10 = withP l key v true p 1) := Lib.hid (by rw [HM10.out.1, HM7.out.1]; unfold withP; simp)
              go_wp2_with fail
              go_ret
              exact ⟨_, p, 1, rfl, HP.out, HHAS.out, by rw [← HE.out]; exact H10.out.1, H10.out.2.1⟩
            | false =>
              go_wp2_with (at_builtin; refine hold ?_)
              intro _
              refine wpList_appendG (by rfl) _ _ 43 (by rfl) w.heap.size 63 i0 _ 2 32 Try.underlying43 hi hz0 hz1 hz2 rfl (by decide) w.heap.size 0 0 [] (by rfl) (World.ownsRow_lit (e := 63) (size := 2) w #[] 0 (Nat.le_refl _) (by decide) rfl) _ ((l.take p).map cellsP) (cellsP_len _) (one_cellsPr _) (by rfl) (RdF.below (HTK.out p hpl) (below_alloc w _) (Nat.le_refl _)) (fun c h => by cases h) ?_ ?_ ?_ ?_
              · simp [maxLen]; omega
              · simp; omega
              · simp
              intro g7 c7 w7 r7 gr7
              obtain ⟨M7, hM7⟩ : ∃ M, M = (l.take p) := ⟨_, rfl⟩
              rw [← hM7] at r7 ⊢
              have HM7 := Lib.hid (And.intro hM7 (show M7.length ≤ 100000 by rw [hM7]; simp; omega))
              clear hM7
              have H7 := Lib.hid (wi_first r7 gr7)
              rw [Nat.zero_add, List.length_map]
              clear r7 gr7
              go_wp2_with (at_builtin; refine hold ?_)
              intro _
              refine wpList_appendG (by rfl) _ _ 43 (by rfl) w.heap.size 63 i0 _ 2 32 Try.underlying43 hi hz0 hz1 hz2 rfl (by decide) g7 c7 M7.length _ (by rfl) (World.ownsRow.alloc H7.out.1 _) (.slice (some ⟨w7.heap.size, 0, none⟩) 1 1) [cellsP (key, v)] (by simp [cellsP]) (by simp [cellsP, Value.oneCell']) (by rfl) (RdF.lit [cellsP (key, v)] (by simp [cellsP]) (heap_alloc_new _ _) rfl (by simp)) (fun c h => by cases h) ?_ ?_ ?_ ?_
              · have := HM7.out.2; simp [maxLen]; omega
              · have := HM7.out.2; simp; omega
              · have := H7.out.2.1.size; simp; omega
              intro g9 c9 w9 r gr
              obtain ⟨M9, hM⟩ : ∃ M, M = M7 ++ [(key, v)] := ⟨_, rfl⟩
              have H9 := Lib.hid (wi_appA H7.out hM r gr)
              rw [show M7.length + [cellsP (key, v)].length = M9.length by rw [hM, List.length_append]; rfl]
              have HM9 := Lib.hid (And.intro hM (show M9.length ≤ 100001 by rw [hM, List.length_append]; have := HM7.out.2; simp; omega))
              clear hM r gr
              go_wp2_with (at_builtin; refine hold ?_)
              intro _
              refine wpList_appendG (by rfl) _ _ 43 (by rfl) w.heap.size 63 i0 _ 2 32 Try.underlying43 hi hz0 hz1 hz2 rfl (by decide) g9 c9 M9.length _ (by rfl) H9.out.1 _ ((l.drop (p + 1)).map cellsP) (cellsP_len _) (one_cellsPr _) (by rfl) (RdF.below (HBQ.out _ _ (by omega) (by omega)) H9.out.2.1 (Nat.le_refl _)) (fun c h => by cases h) ?_ ?_ ?_ ?_
              · have := HM9.out.2; simp [maxLen]; omega
              · have := HM9.out.2; simp; omega
              · have := H9.out.2.1.size; exact this
              intro g10 c10 w10 r gr
              obtain ⟨M10, hM⟩ : ∃ M, M = M9 ++ (l.drop (p + 1)) := ⟨_, rfl⟩
              have H10 := Lib.hid (wi_app H9.out hM r gr)
              rw [show M9.length + (List.map cellsP (l.drop (p + 1))).length = M10.length by rw [hM, List.length_append, List.length_map]]
              have HM10 := Lib.hid (And.intro hM (show M10.length ≤ 200002 by rw [hM, List.length_append]; have := HM9.out.2; simp; omega))
              clear hM r gr
              have HE : Hid (M10 = withP l key v false p 1) := Lib.hid (by rw [HM10.out.1, HM9.out.1, HM7.out.1]; unfold withP; simp)
              go_wp2_with fail
              go_ret
              exact ⟨_, p, 1, rfl, HP.out, HHAS.out, by rw [← HE.out]; exact H10.out.1, H10.out.2.1⟩
    · have hpe : p = l.length := by omega
      have g5 : decide ((p : Int) < (l.length : Int)) = false := decide_eq_false (by omega)
      have g5' : ¬ (p : Int) < (l.length : Int) := by omega
      have HP : Hid (PlaceB key l p) := Lib.hid (place_atP HRI.out hpl HLO.out (fun h => absurd h hlt))
      have HHAS : Hid (0 = (if (∃ h : p < l.length, l[p].1 = key) then 1 else 0)) := Lib.hid (by rw [if_neg]; rintro ⟨h, _⟩; exact hlt h)
      clear HLO hpe
      by_cases hq : p = cap
      · have HBQ : Hid (∀ n m, n = l.length - (p) → m = cap - (p) → RdF 2 w (.slice (some ⟨g, 0, none⟩) n m) ((l.drop (p)).map cellsP)) := Lib.hid (by rintro n m rfl rfl; have := HBH.out (p) (by omega); rwa [if_pos hq.symm] at this)
        subst hq
        cases gone with
        | true =>
          go_wp2_with (at_builtin; refine hold ?_)
          intro _
          refine wpList_appendG (by rfl) _ _ 43 (by rfl) w.heap.size 63 i0 _ 2 32 Try.underlying43 hi hz0 hz1 hz2 rfl (by decide) w.heap.size 0 0 [] (by rfl) (World.ownsRow_lit (e := 63) (size := 2) w #[] 0 (Nat.le_refl _) (by decide) rfl) _ ((l.take p).map cellsP) (cellsP_len _) (one_cellsPr _) (by rfl) (RdF.below (HTK.out p hpl) (below_alloc w _) (Nat.le_refl _)) (fun c h => by cases h) ?_ ?_ ?_ ?_
          · simp [maxLen]; omega
          · simp; omega
          · simp
          intro g7 c7 w7 r7 gr7
          obtain ⟨M7, hM7⟩ : ∃ M, M = (l.take p) := ⟨_, rfl⟩
          rw [← hM7] at r7 ⊢
          have HM7 := Lib.hid (And.intro hM7 (show M7.length ≤ 100000 by rw [hM7]; simp; omega))
          clear hM7
          have H7 := Lib.hid (wi_first r7 gr7)
          rw [Nat.zero_add, List.length_map]
          clear r7 gr7
          go_wp2_with (at_builtin; refine hold ?_)
          intro _
          refine wpList_appendG (by rfl) _ _ 43 (by rfl) w.heap.size 63 i0 _ 2 32 Try.underlying43 hi hz0 hz1 hz2 rfl (by decide) g7 c7 M7.length _ (by rfl) H7.out.1 _ ((l.drop (p)).map cellsP) (cellsP_len _) (one_cellsPr _) (by rfl) (RdF.below (HBQ.out _ _ (by omega) (by omega)) H7.out.2.1 (Nat.le_refl _)) (fun c h => by cases h) ?_ ?_ ?_ ?_
          · have := HM7.out.2; simp [maxLen]; omega
          · have := HM7.out.2; simp; omega
          · have := H7.out.2.1.size; exact this
          intro g10 c10 w10 r gr
          obtain ⟨M10, hM⟩ : ∃ M, M = M7 ++ (l.drop (p)) := ⟨_, rfl⟩
          have H10 := Lib.hid (wi_app H7.out hM r gr)
          rw [show M7.length + (List.map cellsP (l.drop (p))).length = M10.length by rw [hM, List.length_append, List.length_map]]
          have HM10 := Lib.hid (And.intro hM (show M10.length ≤ 200002 by rw [hM, List.length_append]; have := HM7.out.2; simp; omega))
          clear hM r gr
          have HE : Hid (M10 = withP l key v true p 0) := Lib.hid (by rw [HM10.out.1, HM7.out.1]; unfold withP; simp)
          go_wp2_with fail
          go_ret
          exact ⟨_, p, 0, rfl, HP.out, HHAS.out, by rw [← HE.out]; exact H10.out.1, H10.out.2.1⟩
        | false =>
          go_wp2_with (at_builtin; refine hold ?_)
          intro _
          refine wpList_appendG (by rfl) _ _ 43 (by rfl) w.heap.size 63 i0 _ 2 32 Try.underlying43 hi hz0 hz1 hz2 rfl (by decide) w.heap.size 0 0 [] (by rfl) (World.ownsRow_lit (e := 63) (size := 2) w #[] 0 (Nat.le_refl _) (by decide) rfl) _ ((l.take p).map cellsP) (cellsP_len _) (one_cellsPr _) (by rfl) (RdF.below (HTK.out p hpl) (below_alloc w _) (Nat.le_refl _)) (fun c h => by cases h) ?_ ?_ ?_ ?_
          · simp [maxLen]; omega
          · simp; omega
          · simp
          intro g7 c7 w7 r7 gr7
          obtain ⟨M7, hM7⟩ : ∃ M, M = (l.take p) := ⟨_, rfl⟩
          rw [← hM7] at r7 ⊢
          have HM7 := Lib.hid (And.intro hM7 (show M7.length ≤ 100000 by rw [hM7]; simp; omega))
          clear hM7
          have H7 := Lib.hid (wi_first r7 gr7)
          rw [Nat.zero_add, List.length_map]
          clear r7 gr7
          go_wp2_with (at_builtin; refine hold ?_)
          intro _
          refine wpList_appendG (by rfl) _ _ 43 (by rfl) w.heap.size 63 i0 _ 2 32 Try.underlying43 hi hz0 hz1 hz2 rfl (by decide) g7 c7 M7.length _ (by rfl) (World.ownsRow.alloc H7.out.1 _) (.slice (some ⟨w7.heap.size, 0, none⟩) 1 1) [cellsP (key, v)] (by simp [cellsP]) (by simp [cellsP, Value.oneCell']) (by rfl) (RdF.lit [cellsP (key, v)] (by simp [cellsP]) (heap_alloc_new _ _) rfl (by simp)) (fun c h => by cases h) ?_ ?_ ?_ ?_
          · have := HM7.out.2; simp [maxLen]; omega
          · have := HM7.out.2; simp; omega
          · have := H7.out.2.1.size; simp; omega
          intro g9 c9 w9 r gr
          obtain ⟨M9, hM⟩ : ∃ M, M = M7 ++ [(key, v)] := ⟨_, rfl⟩
          have H9 := Lib.hid (wi_appA H7.out hM r gr)
          rw [show M7.length + [cellsP (key, v)].length = M9.length by rw [hM, List.length_append]; rfl]
          have HM9 := Lib.hid (And.intro hM (show M9.length ≤ 100001 by rw [hM, List.length_append]; have := HM7.out.2; simp; omega))
          clear hM r gr
          go_wp2_with (at_builtin; refine hold ?_)
          intro _
          refine wpList_appendG (by rfl) _ _ 43 (by rfl) w.heap.size 63 i0 _ 2 32 Try.underlying43 hi hz0 hz1 hz2 rfl (by decide) g9 c9 M9.length _ (by rfl) H9.out.1 _ ((l.drop (p)).map cellsP) (cellsP_len _) (one_cellsPr _) (by rfl) (RdF.below (HBQ.out _ _ (by omega) (by omega)) H9.out.2.1 (Nat.le_refl _)) (fun c h => by cases h) ?_ ?_ ?_ ?_
          · have := HM9.out.2; simp [maxLen]; omega
          · have := HM9.out.2; simp; omega
          · have := H9.out.2.1.size; exact this
          intro g10 c10 w10 r gr
          obtain ⟨M10, hM⟩ : ∃ M, M = M9 ++ (l.drop (p)) := ⟨_, rfl⟩
          have H10 := Lib.hid (wi_app H9.out hM r gr)
          rw [show M9.length + (List.map cellsP (l.drop (p))).length = M10.length by rw [hM, List.length_append, List.length_map]]
          have HM10 := Lib.hid (And.intro hM (show M10.length ≤ 200002 by rw [hM, List.length_append]; have := HM9.out.2; simp; omega))
          clear hM r gr
          have HE : Hid (M10 = withP l key v false p 0) := Lib.hid (by rw [HM10.out.1, HM9.out.1, HM7.out.1]; unfold withP; simp)
          go_wp2_with fail
          go_ret
          exact ⟨_, p, 0, rfl, HP.out, HHAS.out, by rw [← HE.out]; exact H10.out.1, H10.out.2.1⟩
      · have HBQ : Hid (∀ n m, n = l.length - (p) → m = cap - (p) → RdF 2 w (.slice (some ⟨g, (p) * 2, none⟩) n m) ((l.drop (p)).map cellsP)) := Lib.hid (by rintro n m rfl rfl; have := HBH.out (p) (by omega); rwa [if_neg (fun e => hq e.symm)] at this)
        cases gone with
        | true =>
          go_wp2_with (at_builtin; refine hold ?_)
          intro _
          refine wpList_appendG (by rfl) _ _ 43 (by rfl) w.heap.size 63 i0 _ 2 32 Try.underlying43 hi hz0 hz1 hz2 rfl (by decide) w.heap.size 0 0 [] (by rfl) (World.ownsRow_lit (e := 63) (size := 2) w #[] 0 (Nat.le_refl _) (by decide) rfl) _ ((l.take p).map cellsP) (cellsP_len _) (one_cellsPr _) (by rfl) (RdF.below (HTK.out p hpl) (below_alloc w _) (Nat.le_refl _)) (fun c h => by cases h) ?_ ?_ ?_ ?_
          · simp [maxLen]; omega
          · simp; omega
          · simp
          intro g7 c7 w7 r7 gr7
          obtain ⟨M7, hM7⟩ : ∃ M, M = (l.take p) := ⟨_, rfl⟩
          rw [← hM7] at r7 ⊢
          have HM7 := Lib.hid (And.intro hM7 (show M7.length ≤ 100000 by rw [hM7]; simp; omega))
          clear hM7
          have H7 := Lib.hid (wi_first r7 gr7)
          rw [Nat.zero_add, List.length_map]
          clear r7 gr7
          go_wp2_with (at_builtin; refine hold ?_)
          intro _
          refine wpList_appendG (by rfl) _ _ 43 (by rfl) w.heap.size 63 i0 _ 2 32 Try.underlying43 hi hz0 hz1 hz2 rfl (by decide) g7 c7 M7.length _ (by rfl) H7.out.1 _ ((l.drop (p)).map cellsP) (cellsP_len _) (one_cellsPr _) (by rfl) (RdF.below (HBQ.out _ _ (by omega) (by omega)) H7.out.2.1 (Nat.le_refl _)) (fun c h => by cases h) ?_ ?_ ?_ ?_
          · have := HM7.out.2; simp [maxLen]; omega
          · have := HM7.out.2; simp; omega
          · have := H7.out.2.1.size; exact this
          intro g10 c10 w10 r gr
          obtain ⟨M10, hM⟩ : ∃ M, M = M7 ++ (l.drop (p)) := ⟨_, rfl⟩
          have H10 := Lib.hid (wi_app H7.out hM r gr)
          rw [show M7.length + (List.map cellsP (l.drop (p))).length = M10.length by rw [hM, List.length_append, List.length_map]]
          have HM10 := Lib.hid (And.intro hM (show M10.length ≤ 200002 by rw [hM, List.length_append]; have := HM7.out.2; simp; omega))
          clear hM r gr
          have HE : Hid (M10 = withP l key v true p 0) := Lib.hid (by rw [HM10.out.1, HM7.out.1]; unfold withP; simp)
          go_wp2_with fail
          go_ret
          exact ⟨_, p, 0, rfl, HP.out, HHAS.out, by rw [← HE.out]; exact H10.out.1, H10.out.2.1⟩
        | false =>
          go_wp2_with (at_builtin; refine hold ?_)
          intro _
          refine wpList_appendG (by rfl) _ _ 43 (by rfl) w.heap.size 63 i0 _ 2 32 Try.underlying43 hi hz0 hz1 hz2 rfl (by decide) w.heap.size 0 0 [] (by rfl) (World.ownsRow_lit (e := 63) (size := 2) w #[] 0 (Nat.le_refl _) (by decide) rfl) _ ((l.take p).map cellsP) (cellsP_len _) (one_cellsPr _) (by rfl) (RdF.below (HTK.out p hpl) (below_alloc w _) (Nat.le_refl _)) (fun c h => by cases h) ?_ ?_ ?_ ?_
          · simp [maxLen]; omega
          · simp; omega
          · simp
          intro g7 c7 w7 r7 gr7
          obtain ⟨M7, hM7⟩ : ∃ M, M = (l.take p) := ⟨_, rfl⟩
          rw [← hM7] at r7 ⊢
          have HM7 := Lib.hid (And.intro hM7 (show M7.length ≤ 100000 by rw [hM7]; simp; omega))
          clear hM7
          have H7 := Lib.hid (wi_first r7 gr7)
          rw [Nat.zero_add, List.length_map]
          clear r7 gr7
          go_wp2_with (at_builtin; refine hold ?_)
          intro _
          refine wpList_appendG (by rfl) _ _ 43 (by rfl) w.heap.size 63 i0 _ 2 32 Try.underlying43 hi hz0 hz1 hz2 rfl (by decide) g7 c7 M7.length _ (by rfl) (World.ownsRow.alloc H7.out.1 _) (.slice (some ⟨w7.heap.size, 0, none⟩) 1 1) [cellsP (key, v)] (by simp [cellsP]) (by simp [cellsP, Value.oneCell']) (by rfl) (RdF.lit [cellsP (key, v)] (by simp [cellsP]) (heap_alloc_new _ _) rfl (by simp)) (fun c h => by cases h) ?_ ?_ ?_ ?_
          · have := HM7.out.2; simp [maxLen]; omega
          · have := HM7.out.2; simp; omega
          · have := H7.out.2.1.size; simp; omega
          intro g9 c9 w9 r gr
          obtain ⟨M9, hM⟩ : ∃ M, M = M7 ++ [(key, v)] := ⟨_, rfl⟩
          have H9 := Lib.hid (wi_appA H7.out hM r gr)
          rw [show M7.length + [cellsP (key, v)].length = M9.length by rw [hM, List.length_append]; rfl]
          have HM9 := Lib.hid (And.intro hM (show M9.length ≤ 100001 by rw [hM, List.length_append]; have := HM7.out.2; simp; omega))
          clear hM r gr
          go_wp2_with (at_builtin; refine hold ?_)
          intro _
          refine wpList_appendG (by rfl) _ _ 43 (by rfl) w.heap.size 63 i0 _ 2 32 Try.underlying43 hi hz0 hz1 hz2 rfl (by decide) g9 c9 M9.length _ (by rfl) H9.out.1 _ ((l.drop (p)).map cellsP) (cellsP_len _) (one_cellsPr _) (by rfl) (RdF.below (HBQ.out _ _ (by omega) (by omega)) H9.out.2.1 (Nat.le_refl _)) (fun c h => by cases h) ?_ ?_ ?_ ?_
          · have := HM9.out.2; simp [maxLen]; omega
          · have := HM9.out.2; simp; omega
          · have := H9.out.2.1.size; exact this
          intro g10 c10 w10 r gr
          obtain ⟨M10, hM⟩ : ∃ M, M = M9 ++ (l.drop (p)) := ⟨_, rfl⟩
          have H10 := Lib.hid (wi_app H9.out hM r gr)
          rw [show M9.length + (List.map cellsP (l.drop (p))).length = M10.length by rw [hM, List.length_append, List.length_map]]
          have HM10 := Lib.hid (And.intro hM (show M10.length ≤ 200002 by rw [hM, List.length_append]; have := HM9.out.2; simp; omega))
          clear hM r gr
          have HE : Hid (M10 = withP l key v false p 0) := Lib.hid (by rw [HM10.out.1, HM9.out.1, HM7.out.1]; unfold withP; simp)
          go_wp2_with fail
          go_ret
          exact ⟨_, p, 0, rfl, HP.out, HHAS.out, by rw [← HE.out]; exact H10.out.1, H10.out.2.1⟩
theorem with_any {vl : Value} (l : List PairT) (key v : List UInt8) (gone : Bool) (w : World) {base : Nat} (h : w.ownsRow base 63 2 vl l.length (l.map cellsP).flatten) (hr : RisB l) (hl : l.length ≤ 100000) :
    Calls Try.prog 37 #[vl, str key, str v, .bool gone] w (WithP w l key v gone) := by
  have h0 := h
  rcases h.2 with ⟨rfl, h1⟩ | ⟨g, cap, cur, rfl, -, -, -, -⟩
  · obtain rfl := List.eq_nil_of_length_eq_zero h1
    exact with_none key v gone w
  · exact with_some g cap l key v gone w h0 hr hl
end Go.Proofs.Ytcgjiddiegepkaa
