/- OmapPlays, walked. -/
import Derived.Test.YtdkplhfbcpobaaaPlaysM
import Derived.Test.YtdkplhfbcpobaaaRDel
import Derived.Test.YtdkplhfbcpobaaaRPut
import Derived.Deep.RegionHeld3
import Derived.Deep.CutRange
import Derived.Deep.CutBlock
namespace Go.Proofs.Ytdkplhfbcpobaaa
open Go.RowKit

section
variable {W₀ W : World} {b bx n ob : Nat} {t : Tr} {L : List (Int × List UInt8)} {c0 c1 c2 c3 : Value}
theorem new_iff (hr : RisK L) (hw : WS KSIS VSIS t) (hs : Ris (prs t)) (hp : prs t = L.map encP) {k : Int} (hk : KSIS (.int .i64 k)) : newT (.int .i64 k) t = true ↔ ¬ ∃ p ∈ L, p.1 = k := by
  have h1 := len_put (.int .i64 k) (str []) t
  rw [prs_put ordIS hk hw hs, hp, insL_enc, List.length_map, List.length_map] at h1
  rcases insK_len k [] hr with ⟨g1, g2⟩ | ⟨g1, g2⟩
  · cases e : newT (.int .i64 k) t with
    | true => exact ⟨fun _ => g2, fun _ => rfl⟩
    | false => rw [e] at h1; simp at h1; omega
  · cases e : newT (.int .i64 k) t with
    | true => rw [e] at h1; simp at h1; omega
    | false => exact ⟨fun h => (by cases h), fun h => absurd g2 h⟩
theorem has_iff (hr : RisK L) (hw : WS KSIS VSIS t) (hs : Ris (prs t)) (hp : prs t = L.map encP) {k : Int} (hk : KSIS (.int .i64 k)) : hasT (.int .i64 k) t = true ↔ ∃ p ∈ L, p.1 = k := by
  have h1 := len_rem (.int .i64 k) t
  rw [(prs_rem ordIS hk hw hs).1, hp, delL_enc, List.length_map, List.length_map] at h1
  rcases delK_len2 k hr with ⟨g1, g2⟩ | ⟨g1, g2⟩
  · cases e : hasT (.int .i64 k) t with
    | true => rw [e] at h1; simp at h1; omega
    | false => exact ⟨fun h => (by cases h), fun h => absurd h g2⟩
  · cases e : hasT (.int .i64 k) t with
    | true => exact ⟨fun _ => g2, fun _ => rfl⟩
    | false => rw [e] at h1; simp at h1; omega
/-- Put, of the map. -/
theorem mput_pi (h : PI W₀ W b bx t L n) (hn : n ≤ 1000000) {k : Int} (hk : KSIS (.int .i64 k)) (v : List UInt8) :
    Calls Try.prog 11 #[.pointer (some ⟨b, 0, none⟩), .int .i64 k, str v] W fun e W' => e = .returned (.bool (newT (.int .i64 k) t)) ∧ PI W₀ W' b bx (putT (.int .i64 k) (str v) t) L (n + 1) ∧ Only b W W' ∧ Below b W W' := by
  have := h.tv.ht
  have := h.tv.len
  refine (mputIS_any b _ _ t W h.tv.mp hk ⟨_, rfl⟩ h.tv.ws (by omega) (by omega)).mono ?_
  rintro e W' ⟨rfl, hm, ho, hb⟩
  exact ⟨rfl, h.map (h.tv.put hk ⟨_, rfl⟩ hm) ho hb, ho, hb⟩
/-- Delete, of the map. -/
theorem mdel_pi (h : PI W₀ W b bx t L n) (hn : n ≤ 1000000) {L2 : List (Int × List UInt8)} (hr : RisK L2) (hp : prs t = L2.map encP) {k : Int} (hk : KSIS (.int .i64 k)) :
    Calls Try.prog 13 #[.pointer (some ⟨b, 0, none⟩), .int .i64 k] W fun e W' => e = .returned (.bool (hasT (.int .i64 k) t)) ∧ PI W₀ W' b bx (remT (.int .i64 k) t) L n ∧ Only b W W' ∧ Below b W W' := by
  have h1 := h.tv.ht
  have h2 := h.tv.len
  refine (mdelIS_any b _ t W h.tv.mp hk h.tv.ws (by omega) (by omega)).mono ?_
  rintro e W' ⟨rfl, hm, ho, hb⟩
  have h3 := h.tv.ws.rem (k := .int .i64 k)
  refine ⟨rfl, h.map ⟨hm, h3.1, ?_, by omega, ?_⟩ ho hb, ho, hb⟩
  · rw [(prs_rem ordIS hk h.tv.ws h.tv.rs).1, hp, delL_enc]
    exact ris_enc (delK_ris k hr)
  · have := len_rem (.int .i64 k) t
    omega
/-- put, of the rows. -/
theorem rput_pi (h : PI W₀ W b bx t L n) (hL : L.length ≤ 1000000) (k : Int) (v : List UInt8) {Z : Bool} (hZ : Z = true ↔ ¬ ∃ p ∈ L, p.1 = k) :
    Calls Try.prog 12 #[.pointer (some ⟨bx, 0, none⟩), .int .i64 k, str v] W fun e W' => e = .returned (.bool Z) ∧ PI W₀ W' b bx t (insK k v L) n ∧ ∃ vo, RowsP W bx (bx + 1) vo L ∧ FrR W W' bx (bx + 1) vo := by
  obtain ⟨vo, h1, _⟩ := h.rw
  refine (rput_any h1 (by omega) k v hL).mono ?_
  rintro e W' ⟨z, vo', rfl, hz, h2, hf⟩
  have e : z = Z := by
    rw [← hZ] at hz
    cases z <;> cases Z <;> simp at hz ⊢
  subst e
  refine ⟨rfl, h.rows h1 hf h2 (.inl ?_), vo, h1, hf⟩
  intro e
  rcases insK_len k v h1.ris with ⟨g, _⟩ | ⟨g, p, hp, _⟩
  · rw [e] at g; simp at g
  · rw [e] at g
    have := List.eq_nil_of_length_eq_zero g.symm
    rw [this] at hp
    cases hp
/-- del, of the rows. -/
theorem rdel_pi (h : PI W₀ W b bx t L n) (hL : L.length ≤ 1000000) (k : Int) {Z : Bool} (hZ : Z = true ↔ ∃ p ∈ L, p.1 = k) :
    Calls Try.prog 14 #[.pointer (some ⟨bx, 0, none⟩), .int .i64 k] W fun e W' => e = .returned (.bool Z) ∧ PI W₀ W' b bx t (delK k L) n ∧ ∃ vo, RowsP W bx (bx + 1) vo L ∧ FrR W W' bx (bx + 1) vo := by
  obtain ⟨vo, h1, _⟩ := h.rw
  refine (rdel_any h1 (by omega) k hL).mono ?_
  rintro e W' ⟨z, vo', rfl, hz, h2, hf, ho⟩
  have e : z = Z := by
    rw [← hZ] at hz
    cases z <;> cases Z <;> simp at hz ⊢
  subst e
  exact ⟨rfl, h.rows h1 hf h2 (.inr ho), vo, h1, hf⟩
end
/-- What holds from call to call. -/
structure GI (W₀ W : World) (b bx : Nat) (t : Tr) (L : List (Int × List UInt8)) (n : Nat) : Prop where
  pi : PI W₀ W b bx t L n
  pr : prs t = L.map encP
  ris : RisK L
theorem GI.below {W₀ W W' : World} {b bx n : Nat} {t : Tr} {L : List (Int × List UInt8)} (h : GI W₀ W b bx t L n) (hb : Below W.heap.size W W') : GI W₀ W' b bx t L n := ⟨h.pi.below hb, h.pr, h.ris⟩
theorem GI.len {W₀ W : World} {b bx n : Nat} {t : Tr} {L : List (Int × List UInt8)} (h : GI W₀ W b bx t L n) : L.length ≤ n := by
  have := h.pi.tv.len
  rw [h.pr, List.length_map] at this
  exact this
set_option maxRecDepth 100000 in
set_option maxHeartbeats 8000000 in
theorem plays_walk (v : Value) (l : List OpV) (W : World) (hv : RdO W v l) (hl : ∀ x ∈ l, x.ok) :
    Calls Try.prog 3 #[v] W fun e w' => e = .returned (.bool true) ∧ Below W.heap.size W w' := by
  obtain ⟨av, cv, rfl, hlen, hcells⟩ := hv
  have HC := Lib.hid hcells
  have HL := Lib.hid hl
  clear hcells hl
  by_cases h300 : l.length ≤ 300
  · have g0 : ¬ ((300 : Int) < (l.length : Int)) := by omega
    go_enter Try.func3, Try.ntmps3
    go_wp2_with fail
    refine (first_any W).mono ?_
    rintro e w1 ⟨rfl, hb1⟩
    have HB1 := Lib.hid hb1
    clear hb1
    go_wp2_with fail
    refine (newIS_any w1).mono ?_
    rintro e w2 ⟨b, rfl, hb, hm2, hb2⟩
    have HB2 : Hid (Below W.heap.size W w2 ∧ MP w2 b .nil ∧ W.heap.size ≤ b ∧ b < w2.heap.size) := Lib.hid ⟨HB1.out.trans (hb2.mono HB1.out.size), hm2, by rw [hb]; exact HB1.out.size, hm2.lt⟩
    clear hb hm2 hb2 HB1
    go_wp2_with fail
    obtain ⟨bx, hbx⟩ : ∃ bx, bx = w2.heap.size := ⟨_, rfl⟩
    obtain ⟨w3, hw3⟩ : ∃ w3, w3 = w2.alloc (.cells #[.slice none 0 0] 29) := ⟨_, rfl⟩
    rw [← hbx, ← hw3]
    have H0 : Hid (GI W w3 b bx .nil [] 0) := Lib.hid (by
      obtain ⟨h1, h2, h3, h4⟩ := HB2.out
      have hba := below_alloc w2 (.cells #[.slice none 0 0] 29)
      rw [← hw3] at hba
      have hsz : w3.heap.size = bx + 1 := by rw [hw3, hbx]; simp
      refine ⟨⟨⟨h2.below hba, trivial, trivial, Nat.le_refl _, Nat.le_refl _⟩, ⟨.slice none 0 0, ⟨by rw [hw3, hbx]; exact heap_alloc_new w2 _, World.ownsRow_nil _ _ _ _, trivial, by omega⟩, by simp [Value.ownBlock]⟩, h1.trans (hba.mono h1.size), h3, by rw [hbx]; exact h1.size⟩, rfl, trivial⟩)
    clear hw3 hbx HB2
    go_loopw [3, 5] (fun m i wr => ∃ (b k : Nat) (t : Tr) (L : List (Int × List UInt8)), k ≤ l.length ∧ m = .pointer (some ⟨b, 0, none⟩) ∧ i = .int .i64 (k : Int) ∧ Hid (GI W wr b bx t L k)) (fun _ i _ => l.length - (intOf i).toNat)
    case atStart => exact ⟨b, 0, .nil, [], Nat.zero_le _, rfl, rfl, H0⟩
    case round =>
      clear H0
      obtain ⟨b, k, t, L, hk, rfl, rfl, HG⟩ := hrel
      by_cases hlt : k < l.length
      · have g3 : (k : Int) < (l.length : Int) := by omega
        have g4 : (0 : Int) ≤ (k : Int) := by omega
        obtain ⟨bA, oA, rfl, hA⟩ := HC.out (by intro e; rw [e] at hlt; simp at hlt)
        obtain ⟨e0, e1, e2, e3⟩ := hA k hlt
        obtain ⟨kd, hkd⟩ : ∃ x, x = l[k].kind := ⟨_, rfl⟩
        obtain ⟨x, hx⟩ : ∃ x, x = l[k].k := ⟨_, rfl⟩
        obtain ⟨hi, hhi⟩ : ∃ x, x = l[k].hi := ⟨_, rfl⟩
        obtain ⟨y, hy⟩ : ∃ y, y = l[k].v := ⟨_, rfl⟩
        rw [← hkd] at e0
        rw [← hx] at e1
        rw [← hhi] at e2
        rw [← hy] at e3
        have hlA := World.block_lt_of_cell? W _ e0
        have d0 : wr.cell? ⟨bA, oA + k * 4, none⟩ = some (.int .i64 kd) := (HG.out.pi.bl.cell (p := ⟨bA, oA + k * 4, none⟩) hlA).trans e0
        have d1 : wr.cell? ⟨bA, oA + k * 4 + 1, none⟩ = some (.int .i64 x) := (HG.out.pi.bl.cell (p := ⟨bA, oA + k * 4 + 1, none⟩) hlA).trans e1
        have d2 : wr.cell? ⟨bA, oA + k * 4 + 2, none⟩ = some (.int .i64 hi) := (HG.out.pi.bl.cell (p := ⟨bA, oA + k * 4 + 2, none⟩) hlA).trans e2
        have d3 : wr.cell? ⟨bA, oA + k * 4 + 3, none⟩ = some (str y) := (HG.out.pi.bl.cell (p := ⟨bA, oA + k * 4 + 3, none⟩) hlA).trans e3
        have hok := HL.out _ (List.getElem_mem hlt)
        have HX : Hid (KSIS (.int .i64 x) ∧ KSIS (.int .i64 hi)) := Lib.hid ⟨⟨x, rfl, by rw [hx]; exact hok.2.1⟩, ⟨hi, rfl, by rw [hhi]; exact hok.2.2.1⟩⟩
        clear e0 e1 e2 e3 hA hlA hkd hx hhi hy hok HC HL
        go_upto_block 2 with fail
        obtain ⟨ob, hob⟩ : ∃ ob, ob = wr.heap.size := ⟨_, rfl⟩
        obtain ⟨w4, hw4⟩ : ∃ w4, w4 = wr.alloc (.cells #[.int .i64 kd, .int .i64 x, .int .i64 hi, str y] 31) := ⟨_, rfl⟩
        rw [← hw4, ← hob]
        have HB : Hid (GI W w4 b bx t L k ∧ Box4 w4 ob (.int .i64 kd) (.int .i64 x) (.int .i64 hi) (str y)) := Lib.hid ⟨by rw [hw4]; exact HG.out.below (below_alloc wr _), by rw [hw4, hob]; exact heap_alloc_new wr _⟩
        clear hw4 hob HG d0 d1 d2 d3
        go_cut [3, 7, 8, 9, 10, 11, 12, 13] from 31 to 128 (fun m ok _ _ _ _ _ _ wc => ∃ (b' : Nat) (t' : Tr) (L' : List (Int × List UInt8)), m = .pointer (some ⟨b', 0, none⟩) ∧ ok = .bool true ∧ Hid (GI W wc b' bx t' L' (k + 1) ∧ Box4 wc ob (.int .i64 kd) (.int .i64 x) (.int .i64 hi) (str y)))
        case first =>
          have hL : L.length ≤ 1000000 := by have := HB.out.1.len; omega
          by_cases h0 : kd = 0
          · subst h0
            obtain ⟨Z, hZ⟩ : ∃ Z, Z = newT (.int .i64 x) t := ⟨_, rfl⟩
            have hZi : Z = true ↔ ¬ ∃ p ∈ L, p.1 = x := by rw [hZ]; exact new_iff HB.out.1.ris HB.out.1.pi.tv.ws HB.out.1.pi.tv.rs HB.out.1.pr HX.out.1
            have CP1 : Hid (∀ W5 r, Hid (PI W W5 b bx t r k ∧ Box4 W5 ob (.int .i64 0) (.int .i64 x) (.int .i64 hi) (str y)) → Calls Try.prog 11 #[.pointer (some ⟨b, 0, none⟩), .int .i64 x, str y] W5 fun e W' => e = .returned (.bool Z) ∧ Hid (PI W W' b bx (putT (.int .i64 x) (str y) t) r (k + 1) ∧ Box4 W' ob (.int .i64 0) (.int .i64 x) (.int .i64 hi) (str y))) :=
              Lib.hid (fun W5 r H => (mput_pi H.out.1 (by omega) HX.out.1 y).mono (by
                rintro e W' ⟨rfl, h1, h2, h3⟩
                exact ⟨by rw [hZ], Lib.hid ⟨h1, box4_only H.out.1.tv.mp h2 H.out.2⟩⟩))
            have CP2 : Hid (∀ W5 t0 m, Hid (PI W W5 b bx t0 L m ∧ Box4 W5 ob (.int .i64 0) (.int .i64 x) (.int .i64 hi) (str y)) → Calls Try.prog 12 #[.pointer (some ⟨bx, 0, none⟩), .int .i64 x, str y] W5 fun e W' => e = .returned (.bool Z) ∧ Hid (PI W W' b bx t0 (insK x y L) m ∧ Box4 W' ob (.int .i64 0) (.int .i64 x) (.int .i64 hi) (str y))) :=
              Lib.hid (fun W5 t0 m H => (rput_pi H.out.1 hL x y hZi).mono (by
                rintro e W' ⟨rfl, h1, vo, h2, h3⟩
                exact ⟨rfl, Lib.hid ⟨h1, box4_frr h2 h3 H.out.2⟩⟩))
            have HR : Hid (prs (putT (.int .i64 x) (str y) t) = (insK x y L).map encP ∧ RisK (insK x y L)) := Lib.hid ⟨by rw [prs_put ordIS HX.out.1 HB.out.1.pi.tv.ws HB.out.1.pi.tv.rs, HB.out.1.pr, insL_enc], insK_ris x y HB.out.1.ris⟩
            obtain ⟨d0, d1, d2, d3⟩ := HB.out.2.cells
            have HB : Hid (PI W w4.drew b bx t L k ∧ Box4 w4.drew ob (.int .i64 0) (.int .i64 x) (.int .i64 hi) (str y)) := Lib.hid ⟨HB.out.1.pi.below (Below.drewsN (Below.refl _ _) 1), HB.out.2.below (Below.drewsN (Below.refl _ _) 1)⟩
            clear hZ hZi
            go_wp2_with fail
            go_region_held3 (fun w' => w'.cell? ⟨ob, 1, none⟩ = some (.int .i64 x) ∧ w'.cell? ⟨ob, 3, none⟩ = some (str y))
              (first
                | (exact ⟨d1, d3⟩)
                | (exact ⟨HB.out.2.cells.2.1, HB.out.2.cells.2.2.2⟩)
                | go_keep)
              ((first
                | (go_at_call 11; refine (CP1.out _ _ HB).mono ?_; rintro e w5 ⟨rfl, HB⟩)
                | (go_at_call 12; refine (CP2.out _ _ _ HB).mono ?_; rintro e w5 ⟨rfl, HB⟩)
                | fail))
            all_goals
              go_wp2_with fail
              go_meet
              case rel => exact ⟨b, _, _, rfl, by simp, Lib.hid ⟨⟨HB.out.1, HR.out.1, HR.out.2⟩, HB.out.2⟩⟩
          · by_cases h1 : kd = 1
            · subst h1
              obtain ⟨Z, hZ⟩ : ∃ Z, Z = hasT (.int .i64 x) t := ⟨_, rfl⟩
              have hZi : Z = true ↔ ∃ p ∈ L, p.1 = x := by rw [hZ]; exact has_iff HB.out.1.ris HB.out.1.pi.tv.ws HB.out.1.pi.tv.rs HB.out.1.pr HX.out.1
              have HPR := Lib.hid HB.out.1
              have CP1 : Hid (∀ W5 r, Hid (PI W W5 b bx t r k ∧ Box4 W5 ob (.int .i64 1) (.int .i64 x) (.int .i64 hi) (str y)) → Calls Try.prog 13 #[.pointer (some ⟨b, 0, none⟩), .int .i64 x] W5 fun e W' => e = .returned (.bool Z) ∧ Hid (PI W W' b bx (remT (.int .i64 x) t) r k ∧ Box4 W' ob (.int .i64 1) (.int .i64 x) (.int .i64 hi) (str y))) :=
                Lib.hid (fun W5 r H => (mdel_pi H.out.1 (by omega) HPR.out.ris HPR.out.pr HX.out.1).mono (by
                  rintro e W' ⟨rfl, h1, h2, h3⟩
                  exact ⟨by rw [hZ], Lib.hid ⟨h1, box4_only H.out.1.tv.mp h2 H.out.2⟩⟩))
              have CP2 : Hid (∀ W5 t0 m, Hid (PI W W5 b bx t0 L m ∧ Box4 W5 ob (.int .i64 1) (.int .i64 x) (.int .i64 hi) (str y)) → Calls Try.prog 14 #[.pointer (some ⟨bx, 0, none⟩), .int .i64 x] W5 fun e W' => e = .returned (.bool Z) ∧ Hid (PI W W' b bx t0 (delK x L) m ∧ Box4 W' ob (.int .i64 1) (.int .i64 x) (.int .i64 hi) (str y))) :=
                Lib.hid (fun W5 t0 m H => (rdel_pi H.out.1 hL x hZi).mono (by
                  rintro e W' ⟨rfl, h1, vo, h2, h3⟩
                  exact ⟨rfl, Lib.hid ⟨h1, box4_frr h2 h3 H.out.2⟩⟩))
              have HR : Hid (prs (remT (.int .i64 x) t) = (delK x L).map encP ∧ RisK (delK x L)) := Lib.hid ⟨by rw [(prs_rem ordIS HX.out.1 HB.out.1.pi.tv.ws HB.out.1.pi.tv.rs).1, HB.out.1.pr, delL_enc], delK_ris x HB.out.1.ris⟩
              obtain ⟨d0, d1, d2, d3⟩ := HB.out.2.cells
              have HB : Hid (PI W w4.drew b bx t L k ∧ Box4 w4.drew ob (.int .i64 1) (.int .i64 x) (.int .i64 hi) (str y)) := Lib.hid ⟨HB.out.1.pi.below (Below.drewsN (Below.refl _ _) 1), HB.out.2.below (Below.drewsN (Below.refl _ _) 1)⟩
              clear hZ hZi HPR h0
              go_wp2_with fail
              go_region_held3 (fun w' => w'.cell? ⟨ob, 1, none⟩ = some (.int .i64 x))
                (first
                  | (exact d1)
                  | (exact HB.out.2.cells.2.1)
                  | go_keep)
                ((first
                  | (go_at_call 13; refine (CP1.out _ _ HB).mono ?_; rintro e w5 ⟨rfl, HB⟩)
                  | (go_at_call 14; refine (CP2.out _ _ _ HB).mono ?_; rintro e w5 ⟨rfl, HB⟩)
                  | fail))
              all_goals
                go_wp2_with fail
                go_meet
                case rel => exact ⟨b, _, _, rfl, by simp, Lib.hid ⟨⟨HB.out.1.more (by omega), HR.out.1, HR.out.2⟩, HB.out.2⟩⟩
            · by_cases h2 : kd = 2
              · subst h2
                have CG : Hid (Calls Try.prog 15 #[.pointer (some ⟨b, 0, none⟩), .int .i64 x] w4 fun e w' => e = .returned (.tuple #[str ((getK x L).getD []), .bool (getK x L).isSome]) ∧ w' = w4) :=
                  Lib.hid ((mgetIS_any b _ t w4 HB.out.1.pi.tv.mp HX.out.1 HB.out.1.pi.tv.ws).mono (by
                    rintro e w' ⟨rfl, rfl⟩
                    refine ⟨?_, rfl⟩
                    rw [getT_eq ordIS HX.out.1 HB.out.1.pi.tv.ws HB.out.1.pi.tv.rs, HB.out.1.pr, getL_enc]
                    cases getK x L <;> rfl))
                obtain ⟨d0, d1, d2, d3⟩ := HB.out.2.cells
                obtain ⟨R, hR⟩ : ∃ R, R = getK x L := ⟨_, rfl⟩
                rw [← hR] at CG
                have HGK := Lib.hid hR
                clear hR
                go_wp2_with fail
                refine CG.out.mono ?_
                rintro e w5 ⟨rfl, hw5⟩
                subst hw5
                obtain ⟨vo, hro, _⟩ := HB.out.1.pi.rw
                have CF := Lib.hid (find_any hro x hL)
                have HRO := Lib.hid hro
                clear CG hro
                go_wp2_with fail
                refine CF.out.mono ?_
                rintro e w6 ⟨p, f, nd, rfl, hp, hP1, hP2, hf, hw6⟩
                have hgk := getK_at x hp hP1 hP2
                have HB6 : Hid (GI W w6 b bx t L k ∧ Box4 w6 ob (.int .i64 2) (.int .i64 x) (.int .i64 hi) (str y)) := Lib.hid (by
                  have hb : Below w5.heap.size w5 w6 := by rw [hw6]; exact Below.drewsN (Below.refl _ _) nd
                  exact ⟨HB.out.1.below hb, HB.out.2.below hb⟩)
                have HR6 : Hid (RowsP w6 bx (bx + 1) vo L) := Lib.hid (by
                  have hb : Below w5.heap.size w5 w6 := by rw [hw6]; exact Below.drewsN (Below.refl _ _) nd
                  exact HRO.out.below hb)
                have HFF := Lib.hid hf
                clear hP1 hP2 hf hw6 CF HRO HB d0 d1 d2 d3
                cases f with
                | true =>
                  obtain ⟨hpl, hpk⟩ := HFF.out.1 rfl
                  rw [dif_pos hpl, if_pos hpk] at hgk
                  have hR2 : R = some L[p].2 := by rw [HGK.out]; exact hgk
                  obtain ⟨z, hz⟩ : ∃ z, z = L[p].2 := ⟨_, rfl⟩
                  rw [← hz] at hR2
                  subst hR2
                  have hvo : ∃ g cap, vo = Value.slice (some ⟨g, 0, none⟩) L.length cap := by
                    rcases HR6.out.row.2 with ⟨_, h0⟩ | ⟨g, cap, _, h1, _⟩
                    · omega
                    · exact ⟨g, cap, h1⟩
                  obtain ⟨g, cap, rfl⟩ := hvo
                  have cx : w6.cell? ⟨bx, 0, none⟩ = some (.slice (some ⟨g, 0, none⟩) L.length cap) := by
                    have := HR6.out.box
                    simp [World.cell?, this]
                  have cz := ((RowsP.cells HR6.out).2.2 p hpl).2
                  rw [← hz] at cz
                  have q1 : (0 : Int) ≤ (p : Int) := by omega
                  have q2 : (p : Int) < (L.length : Int) := by omega
                  have q3 : (z == z) = true := by simp
                  clear hz hgk hpk HGK HFF HR6
                  simp only [Option.getD_some, Option.isSome_some]
                  go_wp2_with fail
                  go_meet
                  case rel => exact ⟨b, t, L, rfl, by simp, Lib.hid ⟨⟨HB6.out.1.pi.more (by omega), HB6.out.1.pr, HB6.out.1.ris⟩, HB6.out.2⟩⟩
                | false =>
                  have hno : ¬ ∃ h : p < L.length, L[p].1 = x := fun h => by have := HFF.out.2 h; cases this
                  have hR2 : R = none := by
                    rw [HGK.out, hgk]
                    split
                    · rename_i h
                      rw [if_neg (fun e => hno ⟨h, e⟩)]
                    · rfl
                  subst hR2
                  clear hgk HGK HFF HR6 hno
                  simp only [Option.getD_none, Option.isSome_none]
                  go_wp2_with fail
                  go_meet
                  case rel => exact ⟨b, t, L, rfl, by simp, Lib.hid ⟨⟨HB6.out.1.pi.more (by omega), HB6.out.1.pr, HB6.out.1.ris⟩, HB6.out.2⟩⟩
              · by_cases h3 : kd = 3
                · subst h3
                  have CC := Lib.hid (copyIS_any b t w4 HB.out.1.pi.tv.mp)
                  obtain ⟨d0, d1, d2, d3⟩ := HB.out.2.cells
                  go_wp2_with fail
                  refine CC.out.mono ?_
                  rintro e w5 ⟨c, rfl, hc, hmc, hb5⟩
                  have HB5 : Hid (PI W w5 b bx t L k ∧ Box4 w5 ob (.int .i64 3) (.int .i64 x) (.int .i64 hi) (str y) ∧ GI W w5 c bx t L k ∧ c ≠ b) := by
                    have h1 := HB.out.1
                    have h2 := h1.pi.below hb5
                    refine Lib.hid ⟨h2, HB.out.2.below hb5, ⟨⟨⟨hmc, h1.pi.tv.ws, h1.pi.tv.rs, h1.pi.tv.ht, h1.pi.tv.len⟩, ?_, h2.bl, by rw [hc]; exact h1.pi.bl.size, h2.lx⟩, h1.pr, h1.ris⟩, fun e => by have := h1.pi.tv.mp.lt; omega⟩
                    obtain ⟨vo, hro, _⟩ := h1.pi.rw
                    exact ⟨vo, hro.below hb5, fun e => by have := (hro.row.lt c e).2; omega⟩
                  obtain ⟨f0, f1, f2, f3⟩ := HB5.out.2.1.cells
                  have HPR := Lib.hid (And.intro HB.out.1.pr (And.intro HB.out.1.ris (And.intro HB.out.1.pi.tv.ws HB.out.1.pi.tv.rs)))
                  clear hc hmc hb5 CC HB d0 d1 d2 d3
                  go_wp2_with fail
                  refine (mput_pi HB5.out.1 (by omega) HX.out.1 [115, 112, 111, 105, 108, 116]).mono ?_
                  rintro e w6 ⟨rfl, hp6, ho6, hb6⟩
                  have HB6 : Hid (PI W w6 b bx (putT (.int .i64 x) (str [115, 112, 111, 105, 108, 116]) t) L (k + 1) ∧ Box4 w6 ob (.int .i64 3) (.int .i64 x) (.int .i64 hi) (str y) ∧ GI W w6 c bx t L k ∧ c ≠ b) := by
                    obtain ⟨h1, h2, h3, h4⟩ := HB5.out
                    exact Lib.hid ⟨hp6, box4_only h1.tv.mp ho6 h2, ⟨h3.pi.other h1 h4 ho6 hb6, h3.pr, h3.ris⟩, h4⟩
                  have HP6 : Hid (prs (putT (.int .i64 x) (str [115, 112, 111, 105, 108, 116]) t) = (insK x [115, 112, 111, 105, 108, 116] L).map encP ∧ RisK (insK x [115, 112, 111, 105, 108, 116] L)) := Lib.hid ⟨by rw [prs_put ordIS HX.out.1 HPR.out.2.2.1 HPR.out.2.2.2, HPR.out.1, insL_enc], insK_ris x _ HPR.out.2.1⟩
                  obtain ⟨d0, d1, d2, d3⟩ := HB6.out.2.1.cells
                  clear hp6 ho6 hb6 HB5 HPR f0 f1 f2 f3
                  go_wp2_with fail
                  refine (mdel_pi HB6.out.1 (by omega) HP6.out.2 HP6.out.1 HX.out.2).mono ?_
                  rintro e w7 ⟨rfl, hp7, ho7, hb7⟩
                  have HB7 : Hid (GI W w7 c bx t L k ∧ Box4 w7 ob (.int .i64 3) (.int .i64 x) (.int .i64 hi) (str y)) := by
                    obtain ⟨h1, h2, h3, h4⟩ := HB6.out
                    exact Lib.hid ⟨⟨h3.pi.other h1 h4 ho7 hb7, h3.pr, h3.ris⟩, box4_only h1.tv.mp ho7 h2⟩
                  clear hp7 ho7 hb7 HB6 HP6 d0 d1 d2 d3
                  go_wp2_with fail
                  go_meet
                  case rel => exact ⟨c, t, L, rfl, by simp, Lib.hid ⟨⟨HB7.out.1.pi.more (by omega), HB7.out.1.pr, HB7.out.1.ris⟩, HB7.out.2⟩⟩
                · go_wp2_with fail
                  go_meet
                  case rel => exact ⟨b, t, L, rfl, by simp, Lib.hid ⟨⟨HB.out.1.pi.more (by omega), HB.out.1.pr, HB.out.1.ris⟩, HB.out.2⟩⟩
        case rest =>
          obtain ⟨b', t', L', rfl, rfl, HB⟩ := hcut
          obtain ⟨d0, d1, d2, d3⟩ := HB.out.2.cells
          have CA : Hid (Calls Try.prog 18 #[.pointer (some ⟨b', 0, none⟩), .pointer (some ⟨bx, 0, none⟩), .int .i64 x, .int .i64 hi] wc fun e w' => e = .returned (.bool true) ∧ Below wc.heap.size wc w') := by
            obtain ⟨vo, hr, _⟩ := HB.out.1.pi.rw
            exact Lib.hid (alike_any HB.out.1.pi.tv (by omega) HB.out.1.pr hr HX.out.1 HX.out.2)
          go_wp2_with fail
          refine CA.out.mono ?_
          rintro e w6 ⟨rfl, hb6⟩
          have HG : Hid (GI W w6 b' bx t' L' (k + 1)) := Lib.hid (HB.out.1.below hb6)
          clear hb6 CA HB
          go_wp2_with fail
          go_roundw
          case rel => exact ⟨b', k + 1, t', L', by omega, rfl, by go_num, HG⟩
          case measure => simp [intOf]; omega
      · obtain rfl : k = l.length := by omega
        have g3 : ¬ (l.length : Int) < (l.length : Int) := by omega
        have HW : Hid (Below W.heap.size W wr) := Lib.hid HG.out.pi.bl
        clear HG HC HL
        go_wp2_with fail
        refine (first_any _).mono ?_
        rintro e w5 ⟨rfl, hb5⟩
        have HZ : Hid (Below W.heap.size W w5) := Lib.hid (HW.out.trans (hb5.mono HW.out.size))
        clear hb5
        go_wp2_with fail
        go_ret
        exact ⟨rfl, HZ.out⟩
  · have g0 : (300 : Int) < (l.length : Int) := by omega
    go_enter Try.func3, Try.ntmps3
    go_wp2_with fail
    refine (first_any W).mono ?_
    rintro e w1 ⟨rfl, hb1⟩
    have HB1 := Lib.hid hb1
    clear hb1
    go_wp2_with fail
    refine (newIS_any w1).mono ?_
    rintro e w2 ⟨b, rfl, hb, hm2, hb2⟩
    have HB2 : Hid (Below W.heap.size W w2) := Lib.hid (HB1.out.trans (hb2.mono HB1.out.size))
    clear hb hm2 hb2 HB1
    go_wp2_with fail
    refine (first_any _).mono ?_
    rintro e w3 ⟨rfl, hb3⟩
    have HB3 : Hid (Below W.heap.size W w3) := Lib.hid (by
      have h1 := (below_alloc w2 (.cells #[.slice none 0 0] 29)).trans (hb3.mono (by simp))
      exact HB2.out.trans (h1.mono HB2.out.size))
    clear hb3 HB2
    go_wp2_with fail
    go_ret
    exact ⟨rfl, HB3.out⟩
end Go.Proofs.Ytdkplhfbcpobaaa
