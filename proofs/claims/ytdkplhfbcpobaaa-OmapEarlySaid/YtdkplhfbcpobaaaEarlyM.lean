/- OmapEarly: words and contracts. -/
import Derived.Test.YtdkplhfbcpobaaaMean
namespace Go.Proofs.Ytdkplhfbcpobaaa
open Go.RowKit

theorem rdv_nil (w : World) : RdV w (.slice none 0 0) [] := ⟨none, 0, rfl, by simp, fun h => absurd rfl h⟩
/-- The first pairs of a map. -/
theorem pairs_alln {w : World} {b k : Nat} {t : Tr} {L : List (Int × List UInt8)} (h : TInv w b k t) (hk : k ≤ 1000000) (hp : prs t = L.map encP) (n : Int) :
    ∀ w1, w1 = w.alloc (.cells #[.pointer (some ⟨b, 0, none⟩)] 24) →
      Calls Try.prog 20 #[.func (.func 48) #[] #[.pointer (some ⟨w.heap.size, 0, none⟩)], .int .i64 n] w1 (TwoE w1 (L.take n.toNat)) := by
  rintro w1 rfl
  by_cases hn : 1 ≤ n
  · refine (pairs_any (xs := prs t) (gf := 48) (lb := #[.pointer (some ⟨w.heap.size, 0, none⟩)]) n hn (by have := h.len; omega) (fun p hp => ws_keys h.ws p hp) (enters_of Try.func48 (by kernel_rfl) rfl)
      (fun W hW => NK.of_below hW) (fun W hW => range_all h.mp W (by simpa using hW))).mono (fun e w' he => ?_)
    exact two_pairs (by rw [hp, List.map_take]) he
  · have e0 : n.toNat = 0 := by omega
    rw [e0, List.take_zero]
    exact pairs_less _ _ n (by omega) _
/-- What tells numbers. -/
def OneE (w : World) (l : List Int) (e : Ending) (w' : World) : Prop := ∃ v, e = .returned v ∧ RdV w' v (l.map (Value.int .i64)) ∧ Below w.heap.size w w'
set_option maxRecDepth 100000 in
theorem take_less (gf : Nat) (lb : Array Value) (n : Int) (hn : n < 1) (w : World) : Calls Try.prog 22 #[.func (.func gf) #[] lb, .int .i64 n] w (OneE w []) := by
  have hfn := fnil1IS gf lb
  go_enter Try.func22, Try.ntmps22
  go_wp2
  go_ret
  exact ⟨_, rfl, rdv_nil _, below_alloc _ _⟩
set_option maxRecDepth 100000 in
theorem take_none (w : World) : Calls Try.prog 22 #[.nilFunc, .int .i64 5] w fun e w' => e = .returned (.slice none 0 0) ∧ Below w.heap.size w w' := by
  have hnn : ∀ w, (binOp .eql 52 .nilFunc .nilFunc).run Try.prog w = .ok (.bool true) w := fun w => by kernel_rfl
  go_enter Try.func22, Try.ntmps22
  go_wp2
  go_ret
  exact ⟨rfl, below_alloc _ _⟩
/-- The first keys of a map. -/
theorem take_alln {w : World} {b k : Nat} {t : Tr} {L : List (Int × List UInt8)} (h : TInv w b k t) (hk : k ≤ 1000000) (hp : prs t = L.map encP) (n : Int) :
    ∀ w2, w2 = (w.alloc (.cells #[.pointer (some ⟨b, 0, none⟩)] 24)).alloc (.cells #[.func (.func 48) #[] #[.pointer (some ⟨w.heap.size, 0, none⟩)]] 48) →
      Calls Try.prog 22 #[.func (.func 50) #[] #[.pointer (some ⟨w.heap.size + 1, 0, none⟩)], .int .i64 n] w2 (OneE w2 ((L.take n.toNat).map (·.1))) := by
  intro w2 e2
  by_cases hn : 1 ≤ n
  · refine (take_all h hk n hn w2 e2).mono ?_
    rintro e w' ⟨v, rfl, hr, hb⟩
    have e1 : ((prs t).take n.toNat).map (·.1) = ((L.take n.toNat).map (·.1)).map (Value.int .i64) := by rw [hp, ← List.map_take, List.map_map, List.map_map]; rfl
    rw [e1] at hr
    exact ⟨v, rfl, RdV.of_row hr, hb⟩
  · have e0 : n.toNat = 0 := by omega
    rw [e0, List.take_zero]
    exact take_less _ _ n (by omega) _
/-- Where a slice's cells lie. -/
def FromB (base : Nat) (a : Option Addr) : Prop := ∀ g off s, a = some ⟨g, off, s⟩ → base ≤ g
theorem two_from_at {w : World} {l : List (Int × List UInt8)} {e : Ending} {w' : World} (h : FromP w l e w') : ∃ a1 c1 a2 c2, e = .returned (.tuple #[.slice a1 l.length c1, .slice a2 l.length c2]) ∧ TwoV w' (.slice a1 l.length c1) (.slice a2 l.length c2) l ∧ l.length ≤ c1 ∧ l.length ≤ c2 ∧ Below w.heap.size w w' ∧ FromB w.heap.size a1 := by
  obtain ⟨a1, c1, a2, c2, he, h1, h2, h3, h4⟩ := two_from_cap h
  refine ⟨a1, c1, a2, c2, he, h1, h2, h3, h4, ?_⟩
  obtain ⟨va, vb, he', ra, _, _⟩ := h
  rw [he] at he'
  simp only [Ending.returned.injEq, Value.tuple.injEq, Array.mk.injEq, List.cons.injEq, and_true] at he'
  obtain ⟨rfl, _⟩ := he'
  intro g off s hg
  subst hg
  rcases ra.2 with ⟨q, _⟩ | ⟨g', cap, cur, q, hb, _⟩
  · simp at q
  · simp only [Value.slice.injEq, Option.some.injEq, Addr.mk.injEq] at q
    obtain ⟨⟨rfl, _⟩, _⟩ := q
    exact hb
theorem rdv_keep {w w' : World} {a : Option Addr} {n c b base : Nat} {l : List Value} (h : RdV w (.slice a n c) l) (ha : FromB base a) (hb : b < base) (hk : ∀ k, k < w.heap.size → k ≠ b → w'.heap[k]? = w.heap[k]?) : RdV w' (.slice a n c) l := by
  obtain ⟨a', c', he, h1, h2⟩ := h
  simp only [Value.slice.injEq] at he
  obtain ⟨rfl, rfl, rfl⟩ := he
  refine ⟨a, c, rfl, h1, fun hne => ?_⟩
  obtain ⟨g, off, rfl, hc⟩ := h2 hne
  have hg := ha g off none rfl
  refine ⟨g, off, rfl, fun i hi => ?_⟩
  have := hc i hi
  have hlt := World.block_lt_of_cell? w _ this
  rw [World.cell?_of_block (hk g hlt (by omega))]
  exact this
end Go.Proofs.Ytdkplhfbcpobaaa
