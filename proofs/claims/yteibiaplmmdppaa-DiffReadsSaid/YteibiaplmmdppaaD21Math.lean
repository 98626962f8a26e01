/- What has changed from map to map: plain facts. -/
import Derived.Test.YteibiaplmmdppaaOfFSS
import Derived.Test.YteibiaplmmdppaaD21Map
namespace Go.Proofs.Yteibiaplmmdppaa
open Go.RowKit

theorem map_forms {α β : Type} (f : α → β) : ∀ l : List β, (∀ x ∈ l, ∃ a, x = f a) → ∃ L : List α, l = L.map f
  | [], _ => ⟨[], rfl⟩
  | x :: t, h => by
    obtain ⟨a, rfl⟩ := h x (by simp)
    obtain ⟨L, rfl⟩ := map_forms f t (fun y hy => h y (by simp [hy]))
    exact ⟨a :: L, rfl⟩
theorem chgF_form {ta tb : Tr} {k c : Value} (hk : KSSS k) (hb : WS KSSS VSSS tb) (h : chgFSS ta tb k = some c) : ∃ x : ChgT, c = encC x ∧ k = str x.1 := by
  obtain ⟨kl, rfl⟩ := hk
  unfold chgFSS at h
  cases h2 : getT (str kl) tb with
  | none =>
    rw [h2] at h
    cases h1 : getT (str kl) ta <;> rw [h1] at h <;> (cases h; exact ⟨(kl, [], true), rfl, rfl⟩)
  | some y =>
    obtain ⟨yl, rfl⟩ := getT_vsSS hb h2
    rw [h2] at h
    cases h1 : getT (str kl) ta with
    | none => rw [h1] at h; cases h; exact ⟨(kl, yl, false), rfl, rfl⟩
    | some x =>
      rw [h1] at h
      dsimp only at h
      split at h
      · cases h
      · cases h; exact ⟨(kl, yl, false), rfl, rfl⟩
theorem chgL_forms {ta tb : Tr} (ha : WS KSSS VSSS ta) (hb : WS KSSS VSSS tb) : ∃ L : List ChgT, chgLSS ta tb = L.map encC := by
  refine map_forms encC _ ?_
  intro x hx
  unfold chgLSS chgsSS at hx
  obtain ⟨p, hp, hc⟩ := List.mem_filterMap.1 hx
  have hk := (mrg_mem (fun p => KSSS p.1 ∧ VSSS p.2) _ _ (fun p hp => ws_keys ha p hp) (fun p hp => ws_keys hb p hp) p hp).1
  obtain ⟨c, rfl, _⟩ := chgF_form hk hb hc
  exact ⟨c, rfl⟩
theorem chgL_len (ta tb : Tr) : (chgLSS ta tb).length ≤ (prs ta).length + (prs tb).length := by
  unfold chgLSS chgsSS
  exact Nat.le_trans (List.length_filterMap_le _ _) (mrg_len _ _)
theorem fmap_congr {α β : Type} {f g : α → Option β} : ∀ {l : List α}, (∀ x ∈ l, f x = g x) → l.filterMap f = l.filterMap g
  | [], _ => rfl
  | x :: t, h => by
    have e := h x (by simp)
    have ih := fmap_congr (l := t) (fun y hy => h y (by simp [hy]))
    simp only [List.filterMap_cons, e, ih]
/-- The same over the maps' pairs. -/
def chgP (la lb : List (Value × Value)) : List Value := (mrgL la lb).filterMap (fun p =>
  match getL p.1 la, getL p.1 lb with
  | some x, some y => if sameBSS x y = true then none else some (chgVSS p.1 y false)
  | none, some y => some (chgVSS p.1 y false)
  | _, none => some (chgVSS p.1 (str []) true))
theorem chgL_prs {ta tb : Tr} (ha : WS KSSS VSSS ta) (hb : WS KSSS VSSS tb) (ra : Ris (prs ta)) (rb : Ris (prs tb)) : chgLSS ta tb = chgP (prs ta) (prs tb) := by
  unfold chgLSS chgsSS chgP
  refine fmap_congr ?_
  intro p hp
  have hk := (mrg_mem (fun p => KSSS p.1 ∧ VSSS p.2) _ _ (fun p hp => ws_keys ha p hp) (fun p hp => ws_keys hb p hp) p hp).1
  unfold chgFSS
  rw [getT_eq ordSS hk ha ra, getT_eq ordSS hk hb rb]
  cases getL p.1 (prs ta) <;> cases getL p.1 (prs tb) <;> rfl
theorem first_chg : chgP (mapV [([97], [49]), ([98], [50])]) (mapV [([98], [51])]) = [([97], [], true), ([98], [51], false)].map encC := by
  have e1 : mapV [([97], [49]), ([98], [50])] = [(str [97], str [49]), (str [98], str [50])] := by rfl
  have e2 : mapV [([98], [51])] = [(str [98], str [51])] := by rfl
  have e3 : mrgL [(str [97], str [49]), (str [98], str [50])] [(str [98], str [51])] = [(str [97], str [49]), (str [98], str [51])] := by
    rw [mrg_less (by rfl), mrg_same (by rfl) (by rfl), mrg_end]
  rw [e1, e2]
  unfold chgP
  rw [e3]
  rfl
/-- Two maps as Of has them. -/
theorem ofP_of {w wx wy : World} {b1 b2 : Nat} {ta tb : Tr} {n m k j : Nat} (h1 : MP w b1 ta) (h2 : MP w b2 tb) (ha : TISS wx n k ta) (hb : TISS wy m j tb) (hla : k ≤ 1000000) (hlb : j ≤ 1000000) : OfPSS w b1 b2 ta tb :=
  ⟨h1, h2, ha.ws, hb.ws, by have := ha.len; omega, by have := hb.len; omega⟩
end Go.Proofs.Yteibiaplmmdppaa
