/- hbllaw2's rows: what del does to them; an append within the room. -/
import Derived.Test.YtdkplhfbcpobaaaRPutMath
namespace Go.Proofs.Ytdkplhfbcpobaaa
open Go.RowKit

/-- A row taken away. -/
def delK (k : Int) : List (Int × List UInt8) → List (Int × List UInt8)
  | [] => []
  | p :: t => if k < p.1 then p :: t else if p.1 < k then p :: delK k t else t
theorem delK_mem (k : Int) : ∀ (l : List (Int × List UInt8)), ∀ q ∈ delK k l, q ∈ l
  | [], q, h => by simp [delK] at h
  | p :: t, q, h => by
    unfold delK at h
    split at h
    · exact h
    · split at h
      · rcases List.mem_cons.1 h with rfl | h
        · simp
        · exact List.mem_cons_of_mem _ (delK_mem k t q h)
      · exact List.mem_cons_of_mem _ h
theorem delK_ris (k : Int) : ∀ {l : List (Int × List UInt8)}, RisK l → RisK (delK k l)
  | [], _ => trivial
  | p :: t, h => by
    unfold delK
    split
    · exact h
    · split
      · exact ⟨fun q hq => h.1 q (delK_mem k t q hq), delK_ris k h.2⟩
      · exact h.2
theorem delK_len (k : Int) : ∀ (l : List (Int × List UInt8)), (delK k l).length ≤ l.length
  | [] => Nat.le_refl _
  | p :: t => by
    have := delK_len k t
    unfold delK
    split
    · exact Nat.le_refl _
    · split
      · simp; omega
      · simp
/-- What del takes away. -/
theorem delK_at (k : Int) : ∀ {l : List (Int × List UInt8)} {p : Nat}, RisK l → p ≤ l.length → (∀ j (h : j < l.length), j < p → l[j].1 < k) → (∀ h : p < l.length, k ≤ l[p].1) →
    delK k l = if (∃ h : p < l.length, l[p].1 = k) then l.take p ++ l.drop (p + 1) else l
  | [], p, _, hp, _, _ => by
    obtain rfl : p = 0 := by simpa using hp
    simp [delK]
  | a :: t, 0, h, _, _, h2 => by
    have h0 := h2 (by simp)
    simp only [List.getElem_cons_zero] at h0
    unfold delK
    by_cases e : k < a.1
    · rw [if_pos e, if_neg (by rintro ⟨_, h⟩; simp at h; omega)]
    · rw [if_neg e, if_neg (by omega), if_pos ⟨by simp, by simp; omega⟩]
      simp
  | a :: t, p + 1, h, hp, h1, h2 => by
    obtain ⟨r1, r2⟩ := h
    have h0 := h1 0 (by simp) (by omega)
    simp only [List.getElem_cons_zero] at h0
    unfold delK
    rw [if_neg (by omega), if_pos h0, delK_at k (l := t) (p := p) r2 (by simpa using hp) (fun j hj hjp => h1 (j + 1) (by simpa using hj) (by omega)) (fun hb => h2 (by simpa using hb))]
    have e : (∃ h : p + 1 < (a :: t).length, (a :: t)[p + 1].1 = k) ↔ (∃ h : p < t.length, t[p].1 = k) := by
      constructor
      · rintro ⟨h, e⟩; exact ⟨by simpa using h, e⟩
      · rintro ⟨h, e⟩; exact ⟨by simpa using h, e⟩
    by_cases g : ∃ h : p < t.length, t[p].1 = k
    · rw [if_pos g, if_pos (e.2 g)]
      simp
    · rw [if_neg g, if_neg (fun q => g (e.1 q))]
theorem srcN_zero {W : World} {z : Nat} (hz : z = 0) (a : Addr) (c : Nat) : SrcN W (.slice (some a) z c) 0 [] := by rw [hz]; exact srcN_end a c
theorem step_appendR {F : Fence} {n : Nat} {P : Program} {w : World} {ops : Array Oper} {o : Oper} {a : Act} {K : Act → World → Prop} {Q : Exit → Act → World → Prop} {N : Prop} (hg : o.guard = none) (s x : Operand) (t : TypeId)
    (hop : o.op = Op.call { callee := Callee.builtin Builtin.append, args := #[s, x], argTypes := #[t, t] }) {base : Nat} {e : TypeId} {i : TypeInfo} {size : Nat} (h1 : P.underlying t = some (.slice e)) (h2 : P.info? e = some i) (h4 : i.size = size)
    {g k m cap : Nat} {xs news : List Value} (hs : a.eval s = .slice (some ⟨g, 0, none⟩) k cap) (hown : w.ownsRow base e size (.slice (some ⟨g, 0, none⟩) k cap) k xs) (hy : SrcN w (a.eval x) m news) (hn : news.length = m * size) (hu : ∀ u ∈ news, u.oneCell' = true) (hroom : k + m ≤ cap)
    (hK : ∀ w', w'.ownsRow base e size (.slice (some ⟨g, 0, none⟩) (k + m) cap) (k + m) (xs ++ news) → w.grownBy w' (some g) → K (a.put o.dst (.slice (some ⟨g, 0, none⟩) (k + m) cap)) w') :
    if Region.wanted o (yielded ops a.tmps) = true then Oper.wpIn F n P o a w K Q else N := by
  have hw : Region.wanted o (yielded ops a.tmps) = true := by simp [Region.wanted, hg]
  rw [if_pos hw]
  have main : ∃ w', (Builtin.append_ #[t, t] o.type #[.slice (some ⟨g, 0, none⟩) k cap, a.eval x]).run P w = .ok (.slice (some ⟨g, 0, none⟩) (k + m) cap) w' ∧ w'.ownsRow base e size (.slice (some ⟨g, 0, none⟩) (k + m) cap) (k + m) (xs ++ news) ∧ w.grownBy w' (some g) := by
    obtain ⟨ad, cp, hx, hc1, hc2⟩ := hy
    rw [hx]
    cases ad with
    | none =>
      obtain ⟨rfl, rfl⟩ := hc1 rfl
      have hm : news = [] := List.eq_nil_of_length_eq_zero (by simpa using hn)
      subst hm
      exact ⟨w, run_append_owned_none (P := P) (w := w) base t o.type e i size h1 h2 _ k xs hown, by simpa using hown, rfl, rfl, rfl, Nat.le_refl _, fun _ _ _ => rfl⟩
    | some ad =>
      subst h4
      have hlen : (xs ++ news).length = (k + m) * i.size := by rw [List.length_append, hown.1, hn, Nat.add_mul]
      rcases hown.2 with ⟨h', _⟩ | ⟨g', cap', cur, h', hbg, hgb, hnc, hcm, hcs, htake⟩
      · simp at h'
      · simp only [Value.slice.injEq, Option.some.injEq, Addr.mk.injEq, and_true] at h'
        obtain ⟨rfl, _, rfl⟩ := h'
        have hfit : k * i.size + news.length ≤ cur.size := by rw [hn, hcs, ← Nat.add_mul]; exact Nat.mul_le_mul_right _ hroom
        have hr := run_append_room (P := P) w t o.type e i h1 h2 g k cap cur hgb ad m cp news hn (fun j u hj => by
          have hjm : j < news.length := (List.getElem?_eq_some_iff.1 hj).1
          obtain ⟨b, off, hab, hcell⟩ := hc2 (by intro e; subst e; simp at hjm)
          simp only [Option.some.injEq] at hab
          subst hab
          rw [Addr.add_lit, hcell j hjm]
          simpa [hjm] using hj) hu hroom hfit
        refine ⟨_, hr, ⟨hlen, .inr ⟨g, cap, _, rfl, hbg, setRow_heap w g cur _ e _ hgb, hroom, hcm, ?_, ?_⟩⟩, ⟨rfl, rfl, rfl, by simp, fun k _ hk => setRow_other w g k _ (fun e => hk (by rw [e]))⟩⟩
        · simp only [List.size_toArray, List.length_append, List.length_take, List.length_drop, Array.length_toList]
          omega
        · rw [htake, ← hlen]
          exact List.take_left
  obtain ⟨w', hrun, r1, r2⟩ := main
  unfold Oper.wpIn
  refine ⟨by simp [Oper.about, hop, resolve, Target.leads, Sem.run_pure], ?_⟩
  rw [Oper.semAt_plain F _ _ (by rw [hop]; intro c hc'; cases hc')]
  simp [execOp, hop, resolve, invoke, builtin, hs, hrun, Result.andThen]
  exact hK w' r1 r2
end Go.Proofs.Ytdkplhfbcpobaaa
