/- OmapTakes: words and contracts. -/
import Derived.Test.YtdkplhfbcpobaaaFirstO
import Derived.Test.YtdkplhfbcpobaaaSpanIS
import Derived.Test.YtdkplhfbcpobaaaOpenOps
namespace Go.Proofs.Ytdkplhfbcpobaaa
open Go.RowKit

/-- A map of at most k pairs in block b. -/
structure TInv (W : World) (b k : Nat) (t : Tr) : Prop where
  mp : MP W b t
  ws : WS KSIS VSIS t
  rs : Ris (prs t)
  ht : ht t ≤ k
  len : (prs t).length ≤ k
theorem TInv.below {W W' : World} {b k : Nat} {t : Tr} (h : TInv W b k t) (hb : Below W.heap.size W W') : TInv W' b k t := ⟨h.mp.below hb, h.ws, h.rs, h.ht, h.len⟩
theorem TInv.put {W W' : World} {b k : Nat} {t : Tr} (h : TInv W b k t) {x v : Value} (hx : KSIS x) (hv : VSIS v) (hm : MP W' b (putT x v t)) : TInv W' b (k + 1) (putT x v t) := by
  have hw := WS.put hx hv h.ws
  have hp := prs_put ordIS (x := v) hx h.ws h.rs
  refine ⟨hm, hw.1, by rw [hp]; exact (ris_ins ordIS hx (fun p hp => (ws_keys h.ws p hp).1) h.rs).1, by have := h.ht; have := hw.2; omega, ?_⟩
  rw [len_put]
  have := h.len
  split <;> omega
/-- Keys that are numbers. -/
theorem keys_ints : ∀ (L : List (Value × Value)), (∀ p ∈ L, KSIS p.1) → ∃ l : List Int, L.map (·.1) = l.map (Value.int .i64) ∧ l.length = L.length
  | [], _ => ⟨[], rfl, rfl⟩
  | p :: t, h => by
    obtain ⟨n, hn, _⟩ := h p (List.mem_cons_self ..)
    obtain ⟨l, h1, h2⟩ := keys_ints t (fun q hq => h q (List.mem_cons_of_mem _ hq))
    exact ⟨n :: l, by simp [hn, h1], by simp [h2]⟩
/-- A row's length and its room. -/
theorem row_cap {W : World} {base : Nat} {e : TypeId} {v : Value} {k : Nat} {xs : List Value} (h : W.ownsRow base e 1 v k xs) : ∃ a c, v = .slice a k c ∧ k ≤ c := by
  rcases h.2 with ⟨rfl, rfl⟩ | ⟨g, cap, cur, rfl, _, _, h1, _⟩
  · exact ⟨none, 0, rfl, Nat.le_refl _⟩
  · exact ⟨_, cap, rfl, h1⟩
/-- What lies in a span. -/
def inS (lo hi x : Int) : Bool := decide (lo ≤ x) && decide (x < hi)
theorem span_ints {L : List (Value × Value)} {l : List Int} {lo hi : Int} (h : L.map (·.1) = l.map (Value.int .i64)) :
    (L.filter (fun p => !lessV p.1 (.int .i64 lo) && lessV p.1 (.int .i64 hi))).map (·.1) = (l.filter (inS lo hi)).map (Value.int .i64) := by
  induction L generalizing l with
  | nil => cases l with
    | nil => rfl
    | cons => simp at h
  | cons p t ih => cases l with
    | nil => simp at h
    | cons x l =>
      obtain ⟨k, v⟩ := p
      simp only [List.map_cons, List.cons.injEq] at h
      obtain ⟨rfl, h⟩ := h
      have e : (!lessV (.int .i64 x) (.int .i64 lo) && lessV (.int .i64 x) (.int .i64 hi)) = inS lo hi x := by
        simp only [lessV, inS]
        congr 1
        by_cases q : x < lo
        · have : ¬ lo ≤ x := by omega
          simp [q, this]
        · have : lo ≤ x := by omega
          simp [q, this]
      simp only [List.filter_cons, e]
      cases inS lo hi x
      · simpa using ih h
      · simpa using ih h
/-- The first keys of a map. -/
theorem take_all {w : World} {b k : Nat} {t : Tr} (h : TInv w b k t) (hk : k ≤ 1000000) (n : Int) (hn : 1 ≤ n) :
    ∀ w2, w2 = (w.alloc (.cells #[.pointer (some ⟨b, 0, none⟩)] 24)).alloc (.cells #[.func (.func 48) #[] #[.pointer (some ⟨w.heap.size, 0, none⟩)]] 48) →
      Calls Try.prog 22 #[.func (.func 50) #[] #[.pointer (some ⟨w.heap.size + 1, 0, none⟩)], .int .i64 n] w2 (TakePIS w2 (((prs t).take n.toNat).map (·.1))) := by
  rintro w2 rfl
  refine takeIS_any (xs := prs t) (gf := 50) (lb := #[.pointer (some ⟨w.heap.size + 1, 0, none⟩)]) n hn (by have := h.len; omega) (fun p hp => (ws_keys h.ws p hp).1) (enters_of Try.func50 (by kernel_rfl) rfl)
    (fun W hW => NK.of_below ((below_alloc _ _).trans (hW.mono (by simp)))) (fun W hW => range_keys h.mp (by decide) W (by simpa using hW))
/-- The first keys of a span of a map. -/
theorem take_span {w : World} {b k : Nat} {t : Tr} (h : TInv w b k t) (hk : k ≤ 1000000) (n : Int) (hn : 1 ≤ n) {lo hi : Value} (hlo : KSIS lo) (hhi : KSIS hi) :
    ∀ w2, w2 = (spanWIS w b lo hi).alloc (.cells #[.func (.func 60) #[] #[.pointer (some ⟨w.heap.size, 0, none⟩), .pointer (some ⟨w.heap.size + 1, 0, none⟩), .pointer (some ⟨w.heap.size + 2, 0, none⟩)]] 48) →
      Calls Try.prog 22 #[.func (.func 50) #[] #[.pointer (some ⟨w.heap.size + 3, 0, none⟩)], .int .i64 n] w2 (TakePIS w2 (((btwIS lo hi t).take n.toNat).map (·.1))) := by
  rintro w2 rfl
  have b0 := Boxed.new w 24 (.pointer (some ⟨b, 0, none⟩))
  have b1 := Boxed.new (w.alloc (.cells #[.pointer (some ⟨b, 0, none⟩)] 24)) 3 lo
  have b2 := Boxed.new ((w.alloc (.cells #[.pointer (some ⟨b, 0, none⟩)] 24)).alloc (.cells #[lo] 3)) 3 hi
  simp only [World.size_alloc] at b1 b2
  have hs : (spanWIS w b lo hi).heap.size = w.heap.size + 3 := by simp [spanWIS]
  have c0 : (spanWIS w b lo hi).cell? ⟨w.heap.size, 0, none⟩ = some (.pointer (some ⟨b, 0, none⟩)) := ((b0.alloc _).alloc _).cell
  have c1 : (spanWIS w b lo hi).cell? ⟨w.heap.size + 1, 0, none⟩ = some lo := (b1.alloc _).cell
  have c2 : (spanWIS w b lo hi).cell? ⟨w.heap.size + 2, 0, none⟩ = some hi := b2.cell
  have hb : Below w.heap.size w (spanWIS w b lo hi) := (((Below.refl _ w).alloc (Nat.le_refl _) _).alloc (by simp) _).alloc (by simp; omega) _
  have bx := Boxed.new (spanWIS w b lo hi) 48 (.func (.func 60) #[] #[.pointer (some ⟨w.heap.size, 0, none⟩), .pointer (some ⟨w.heap.size + 1, 0, none⟩), .pointer (some ⟨w.heap.size + 2, 0, none⟩)])
  rw [hs] at bx
  have hbt := btwIS_filter ordIS hlo hhi h.ws h.rs
  have hmem : ∀ p ∈ btwIS lo hi t, p ∈ prs t := fun p hp => by rw [hbt] at hp; exact (List.mem_filter.1 hp).1
  have hle : (btwIS lo hi t).length ≤ (prs t).length := by rw [hbt]; exact List.length_filter_le _ _
  refine takeIS_any (xs := btwIS lo hi t) (gf := 50) (lb := #[.pointer (some ⟨w.heap.size + 3, 0, none⟩)]) n hn (by have := h.len; omega) (fun p hp => (ws_keys h.ws p (hmem p hp)).1) (enters_of Try.func50 (by kernel_rfl) rfl)
    (fun W hW => NK.of_below ((below_alloc _ _).trans (hW.mono (by simp)))) (fun W hW => ?_)
  refine keyssIS_any (Ok := NK (spanWIS w b lo hi)) (gf := 60) (lb := #[.pointer (some ⟨w.heap.size, 0, none⟩), .pointer (some ⟨w.heap.size + 1, 0, none⟩), .pointer (some ⟨w.heap.size + 2, 0, none⟩)]) (enters_of Try.func60 (by kernel_rfl) rfl) (fun W' hW' => ?_)
    ((hW.cell (p := ⟨w.heap.size + 3, 0, none⟩) (by simp [hs])).trans bx.cell) (by decide)
  have hsz := hW.size
  simp only [World.size_alloc] at hsz
  exact spansIS_any (h.mp.below hb) h.ws hlo hhi c0 c1 c2 (((below_alloc _ _).trans (hW.mono (by simp))).trans (hW'.mono (by omega)))
end Go.Proofs.Ytdkplhfbcpobaaa
