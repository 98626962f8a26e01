/- DiffBack: plain facts. -/
import Derived.Test.YteibiaplmmdppaaD21FoldM
namespace Go.Proofs.Yteibiaplmmdppaa
open Go.RowKit

theorem sameB_self {x : Value} (h : VSSS x) : sameBSS x x = true := by
  obtain ⟨l, rfl⟩ := h
  simp [sameBSS]
/-- Of a map and itself nothing has changed. -/
theorem chg_self {t : Tr} (h : WS KSSS VSSS t) (hr : Ris (prs t)) : chgLSS t t = [] := by
  unfold chgLSS chgsSS
  rw [List.filterMap_eq_nil_iff]
  intro p hp
  have hk : ∀ p ∈ prs t, KSSS p.1 := fun p hp => (ws_keys h p hp).1
  have hin : p ∈ prs t := mrg_mem (fun p => p ∈ prs t) (prs t) (prs t) (fun p hp => hp) (fun p hp => hp) p hp
  have hg : getT p.1 t = some p.2 := by rw [getT_eq ordSS (hk p hin) h hr]; exact mem_getL hk hr hin
  unfold chgFSS
  rw [hg]
  dsimp only
  rw [if_pos (sameB_self (ws_keys h p hin).2)]
/-- From a map to none each key is gone. -/
theorem chg_gone (t : Tr) : (chgLSS t .nil).length = (prs t).length := by
  have e : chgLSS t .nil = (prs t).filterMap (fun p => chgFSS t .nil p.1) := by
    unfold chgLSS chgsSS
    rw [show prs .nil = [] from rfl, mrg_end]
  rw [e]
  have hs : ∀ p ∈ prs t, (chgFSS t .nil p.1).isSome = true := by
    intro p _
    unfold chgFSS
    rw [show getT p.1 Tr.nil = none from rfl]
    cases getT p.1 t <;> rfl
  have gen : ∀ l : List (Value × Value), (∀ p ∈ l, (chgFSS t .nil p.1).isSome = true) → (l.filterMap (fun p => chgFSS t .nil p.1)).length = l.length := by
    intro l
    induction l with
    | nil => intro _; rfl
    | cons p l ih =>
      intro hl
      have h1 := hl p (by simp)
      cases hc : chgFSS t .nil p.1 with
      | none => rw [hc] at h1; cases h1
      | some c =>
        rw [List.filterMap_cons, hc]
        simp [ih (fun q hq => hl q (by simp [hq]))]
  exact gen _ hs
theorem foldV_app (s : List (Value × Value)) (a b : List ChgT) : foldV s (a ++ b) = foldV (foldV s a) b := by simp [foldV]
/-- A part more. -/
theorem fold_part (s : List (Value × Value)) (L : List ChgT) (j n : Nat) : foldV (foldV s (L.take j)) ((L.drop j).take n) = foldV s (L.take (j + n)) := by
  rw [← foldV_app, List.take_add]
theorem gtB_of_less {a b : List UInt8} (h : Op.bytesLess b a = true) : gtB a b = true := by
  unfold gtB
  have h1 : Op.bytesLess a b = false := by
    have := ordSS.asym (ss_key b) (ss_key a) (show lessV (str b) (str a) = true from h)
    exact this
  have h2 : (a == b) = false := by
    rw [beq_eq_false_iff_ne]
    rintro rfl
    rw [bl_irr] at h; cases h
  rw [h1, h2]; rfl
theorem risC_app : ∀ {a b : List ChgT}, RisC (a ++ b) → RisC a ∧ RisC b ∧ ∀ x ∈ a, ∀ y ∈ b, Op.bytesLess x.1 y.1 = true
  | [], _, h => ⟨trivial, h, fun x hx => (by cases hx)⟩
  | c :: a, b, h => by
    obtain ⟨h1, h2⟩ := h
    obtain ⟨i1, i2, i3⟩ := risC_app h2
    refine ⟨⟨fun q hq => h1 q (by simp [hq]), i1⟩, i2, fun x hx y hy => ?_⟩
    rcases List.mem_cons.1 hx with rfl | hx
    · exact h1 y (by simp [hy])
    · exact i3 x hx y hy
/-- Behind the j-th key there is just the rest. -/
theorem after_rest {L : List ChgT} (h : RisC L) {j : Nat} (hj : j < L.length) : L.filter (fun c => gtB c.1 L[j].1) = L.drop (j + 1) := by
  have e : L = (L.take j ++ [L[j]]) ++ L.drop (j + 1) := by
    rw [← List.take_succ_eq_append_getElem hj, List.take_append_drop]
  have hR := h
  rw [e] at hR
  obtain ⟨r1, _, r3⟩ := risC_app hR
  obtain ⟨z, hz⟩ : ∃ z, z = L[j] := ⟨_, rfl⟩
  rw [← hz] at e r1 r3 ⊢
  conv => lhs; rw [e]
  rw [List.filter_append]
  have f1 : (L.take j ++ [z]).filter (fun c => gtB c.1 z.1) = [] := by
    rw [List.filter_eq_nil_iff]
    intro c hc
    rw [gt_last r1 c hc]; simp
  have f2 : (L.drop (j + 1)).filter (fun c => gtB c.1 z.1) = L.drop (j + 1) := by
    rw [List.filter_eq_self]
    intro c hc
    exact gtB_of_less (r3 z (by simp) c hc)
  rw [f1, f2]; rfl
theorem filter_enc (L : List ChgT) (key : List UInt8) : (L.map encC).filter (gtV key) = (L.filter (fun c => gtB c.1 key)).map encC := by
  rw [List.filter_map]
  rfl
end Go.Proofs.Yteibiaplmmdppaa
