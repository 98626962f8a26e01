import Derived.Test.YteibiaplmmdppaaGetSS
import Derived.Test.YteibiaplmmdppaaOfSS
import Derived.Test.YteibiaplmmdppaaD21Map
/- Maps in order, omap[string,string]: Copy. -/
namespace Go.Proofs.Yteibiaplmmdppaa
open Go.RowKit

theorem copySS_any (b : Nat) (t : Tr) (w : World) (h : MP w b t) : Calls Try.prog 45 #[.pointer (some ⟨b, 0, none⟩)] w fun e w' => ∃ c, e = .returned (.pointer (some ⟨c, 0, none⟩)) ∧ c = w.heap.size ∧ MP w' c t ∧ Below w.heap.size w w' := by
  obtain ⟨T, o, hc, htp⟩ := h
  have c0 : w.cell? ⟨b, 0, none⟩ = some (.pointer o) := by simp [World.cell?, hc]
  have c1 : w.cell? ⟨b, 1, none⟩ = some (.int .i64 ((prs t).length : Int)) := by simp [World.cell?, hc]
  have HT := Lib.hid htp
  obtain ⟨n, hn⟩ : ∃ n, n = (prs t).length := ⟨_, rfl⟩
  rw [← hn] at c1
  have HN := Lib.hid hn
  clear hc htp hn
  go_enter Try.func45, Try.ntmps45
  go_wp2_with fail
  go_region_held3 (fun W => W.cell? ⟨b, 0, none⟩ = some (.pointer o) ∧ W.cell? ⟨b, 1, none⟩ = some (.int .i64 (n : Int)))
    (first
      | (exact ⟨c0, c1⟩)
      | go_keep)
    (fail)
  all_goals
    go_wp2_with fail
    go_ret
    have hb : Below w.heap.size w (w.alloc (.cells #[.pointer o, .int .i64 (n : Int)] 89)) := below_alloc _ _
    exact ⟨w.heap.size, rfl, rfl, ⟨_, o, by rw [← HN.out]; exact heap_alloc_new w _, TP.drewN 1 (TP.below hb HT.out)⟩, Below.drewsN hb 1⟩
end Go.Proofs.Yteibiaplmmdppaa

/- diff.copyOf[string], diff.Of[string]. -/
namespace Go.Proofs.Yteibiaplmmdppaa
open Go.RowKit

/-- A map, or none. -/
def MOSS (w : World) (v : Value) (t : Tr) : Prop := (∃ b, v = .pointer (some ⟨b, 0, none⟩) ∧ MP w b t) ∨ (v = .pointer none ∧ t = .nil)
theorem MOSS.below {w w' : World} {v : Value} {t : Tr} (h : MOSS w v t) (hb : Below w.heap.size w w') : MOSS w' v t := by
  rcases h with ⟨b, e, h⟩ | h
  · exact .inl ⟨b, e, h.below hb⟩
  · exact .inr h
theorem copyOfSS_any (v : Value) (t : Tr) (w : World) (h : MOSS w v t) : Calls Try.prog 32 #[v] w fun e w' => ∃ c, e = .returned (.pointer (some ⟨c, 0, none⟩)) ∧ w.heap.size ≤ c ∧ MP w' c t ∧ Below w.heap.size w w' := by
  rcases h with ⟨b, rfl, h⟩ | ⟨rfl, rfl⟩
  · have C := Lib.hid (copySS_any b t w h)
    clear h
    go_enter Try.func32, Try.ntmps32
    go_wp2_with fail
    refine C.out.mono ?_
    rintro e w1 ⟨c, rfl, hc, hm, hb⟩
    have HC := Lib.hid (And.intro hc (And.intro hm hb))
    clear hc hm hb
    go_wp2_with fail
    go_ret
    exact ⟨c, rfl, by rw [HC.out.1]; exact Nat.le_refl _, HC.out.2.1, HC.out.2.2⟩
  · have C := Lib.hid (newSS_any w)
    go_enter Try.func32, Try.ntmps32
    go_wp2_with fail
    refine C.out.mono ?_
    rintro e w1 ⟨c, rfl, hc, hm, hb⟩
    have HC := Lib.hid (And.intro hc (And.intro hm hb))
    clear hc hm hb
    go_wp2_with fail
    go_ret
    exact ⟨c, rfl, by rw [HC.out.1]; exact Nat.le_refl _, HC.out.2.1, HC.out.2.2⟩
/-- What Of tells. -/
def OfESS (w : World) (ta tb : Tr) (e : Ending) (w' : World) : Prop :=
  ∃ ba bb b1 b2, e = .returned (.func (.func 33) #[] #[.pointer (some ⟨ba, 0, none⟩), .pointer (some ⟨bb, 0, none⟩)]) ∧ MP w' b1 ta ∧ MP w' b2 tb ∧ w'.cell? ⟨ba, 0, none⟩ = some (.pointer (some ⟨b1, 0, none⟩)) ∧ w'.cell? ⟨bb, 0, none⟩ = some (.pointer (some ⟨b2, 0, none⟩)) ∧ Below w.heap.size w w'
theorem ofSS_any (va vb : Value) (ta tb : Tr) (w : World) (ha : MOSS w va ta) (hb : MOSS w vb tb) : Calls Try.prog 13 #[va, vb] w (OfESS w ta tb) := by
  have C1 := Lib.hid (copyOfSS_any va ta w ha)
  have HB := Lib.hid hb
  clear ha hb
  go_enter Try.func13, Try.ntmps13
  go_wp2_with fail
  refine C1.out.mono ?_
  rintro e w1 ⟨c1, rfl, _, hm1, hb1⟩
  have C2 := Lib.hid (copyOfSS_any vb tb w1 (HB.out.below hb1))
  have H1 := Lib.hid (And.intro hm1 hb1)
  clear hm1 hb1 C1 HB
  go_wp2_with fail
  refine C2.out.mono ?_
  rintro e w2 ⟨c2, rfl, _, hm2, hb2⟩
  have H2 := Lib.hid (And.intro (H1.out.1.below hb2) (And.intro hm2 (H1.out.2.trans (hb2.mono H1.out.2.size))))
  clear hm2 hb2 C2 H1
  go_wp2_with fail
  go_ret
  obtain ⟨h1, h2, h3⟩ := H2.out
  have l1 := below_alloc w2 (.cells #[.pointer (some ⟨c1, 0, none⟩)] 25)
  have l2 := below_alloc (w2.alloc (.cells #[.pointer (some ⟨c1, 0, none⟩)] 25)) (.cells #[.pointer (some ⟨c2, 0, none⟩)] 25)
  have l3 := l1.trans (l2.mono l1.size)
  refine ⟨w2.heap.size, w2.heap.size + 1, c1, c2, rfl, h1.below l3, h2.below l3, ((Boxed.new w2 _ _).alloc _).cell, ?_, h3.trans (l3.mono h3.size)⟩
  have := (Boxed.new (w2.alloc (.cells #[.pointer (some ⟨c1, 0, none⟩)] 25)) 25 (.pointer (some ⟨c2, 0, none⟩))).cell
  rw [World.size_alloc] at this
  exact this
end Go.Proofs.Yteibiaplmmdppaa

/- What has changed from map to map: plain facts. -/
namespace Go.Proofs.Yteibiaplmmdppaa
open Go.RowKit

theorem map_forms {α β : Type} (f : α → β) : ∀ l : List β, (∀ x ∈ l, ∃ a, x = f a) → ∃ L : List α, l = L.map f
  | [], _ => ⟨[], rfl⟩
  | x :: t, h => by
    obtain ⟨a, rfl⟩ := h x (by simp)
    obtain ⟨L, rfl⟩ := map_forms f t (fun y hy => h y (by simp [hy]))
    exact ⟨a :: L, rfl⟩
theorem chgF_form {ta tb : Tr} {k c : Value} (hk : KSSS k) (hb : WS KSSS VSSS tb) (h : chgFSS ta tb k = some c) : ∃ x : ChgT, c = encC x ∧ k = str x.1 := by
  obtain ⟨kl, rfl⟩ := hk
  unfold chgFSS at h
  cases h2 : getT (str kl) tb with
  | none =>
    rw [h2] at h
    cases h1 : getT (str kl) ta <;> rw [h1] at h <;> (cases h; exact ⟨(kl, [], true), rfl, rfl⟩)
  | some y =>
    obtain ⟨yl, rfl⟩ := getT_vsSS hb h2
    rw [h2] at h
    cases h1 : getT (str kl) ta with
    | none => rw [h1] at h; cases h; exact ⟨(kl, yl, false), rfl, rfl⟩
    | some x =>
      rw [h1] at h
      dsimp only at h
      split at h
      · cases h
      · cases h; exact ⟨(kl, yl, false), rfl, rfl⟩
theorem chgL_forms {ta tb : Tr} (ha : WS KSSS VSSS ta) (hb : WS KSSS VSSS tb) : ∃ L : List ChgT, chgLSS ta tb = L.map encC := by
  refine map_forms encC _ ?_
  intro x hx
  unfold chgLSS chgsSS at hx
  obtain ⟨p, hp, hc⟩ := List.mem_filterMap.1 hx
  have hk := (mrg_mem (fun p => KSSS p.1 ∧ VSSS p.2) _ _ (fun p hp => ws_keys ha p hp) (fun p hp => ws_keys hb p hp) p hp).1
  obtain ⟨c, rfl, _⟩ := chgF_form hk hb hc
  exact ⟨c, rfl⟩
theorem chgL_len (ta tb : Tr) : (chgLSS ta tb).length ≤ (prs ta).length + (prs tb).length := by
  unfold chgLSS chgsSS
  exact Nat.le_trans (List.length_filterMap_le _ _) (mrg_len _ _)
theorem fmap_congr {α β : Type} {f g : α → Option β} : ∀ {l : List α}, (∀ x ∈ l, f x = g x) → l.filterMap f = l.filterMap g
  | [], _ => rfl
  | x :: t, h => by
    have e := h x (by simp)
    have ih := fmap_congr (l := t) (fun y hy => h y (by simp [hy]))
    simp only [List.filterMap_cons, e, ih]
/-- The same over the maps' pairs. -/
def chgP (la lb : List (Value × Value)) : List Value := (mrgL la lb).filterMap (fun p =>
  match getL p.1 la, getL p.1 lb with
  | some x, some y => if sameBSS x y = true then none else some (chgVSS p.1 y false)
  | none, some y => some (chgVSS p.1 y false)
  | _, none => some (chgVSS p.1 (str []) true))
theorem chgL_prs {ta tb : Tr} (ha : WS KSSS VSSS ta) (hb : WS KSSS VSSS tb) (ra : Ris (prs ta)) (rb : Ris (prs tb)) : chgLSS ta tb = chgP (prs ta) (prs tb) := by
  unfold chgLSS chgsSS chgP
  refine fmap_congr ?_
  intro p hp
  have hk := (mrg_mem (fun p => KSSS p.1 ∧ VSSS p.2) _ _ (fun p hp => ws_keys ha p hp) (fun p hp => ws_keys hb p hp) p hp).1
  unfold chgFSS
  rw [getT_eq ordSS hk ha ra, getT_eq ordSS hk hb rb]
  cases getL p.1 (prs ta) <;> cases getL p.1 (prs tb) <;> rfl
theorem first_chg : chgP (mapV [([97], [49]), ([98], [50])]) (mapV [([98], [51])]) = [([97], [], true), ([98], [51], false)].map encC := by
  have e1 : mapV [([97], [49]), ([98], [50])] = [(str [97], str [49]), (str [98], str [50])] := by rfl
  have e2 : mapV [([98], [51])] = [(str [98], str [51])] := by rfl
  have e3 : mrgL [(str [97], str [49]), (str [98], str [50])] [(str [98], str [51])] = [(str [97], str [49]), (str [98], str [51])] := by
    rw [mrg_less (by rfl), mrg_same (by rfl) (by rfl), mrg_end]
  rw [e1, e2]
  unfold chgP
  rw [e3]
  rfl
/-- Two maps as Of has them. -/
theorem ofP_of {w wx wy : World} {b1 b2 : Nat} {ta tb : Tr} {n m k j : Nat} (h1 : MP w b1 ta) (h2 : MP w b2 tb) (ha : TISS wx n k ta) (hb : TISS wy m j tb) (hla : k ≤ 1000000) (hlb : j ≤ 1000000) : OfPSS w b1 b2 ta tb :=
  ⟨h1, h2, ha.ws, hb.ws, by have := ha.len; omega, by have := hb.len; omega⟩
end Go.Proofs.Yteibiaplmmdppaa
